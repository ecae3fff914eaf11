/- Chapter 7: the program's bidding: a call added, an auction's calls made again. (Written by wip/gen7d.py.) -/
import Derived.Test.YtnkbcmkngghnoaaPbI7
namespace Go.Proofs.Ytnkbcmkngghnoaa.Lib1
open Go.RowKit
set_option maxRecDepth 100000

/-- The first n of a list's numbers. -/
def upTo (cs : List Int) (n : Nat) : List Int := (List.range n).map fun j => cs.getD j 0
theorem upTo_len (cs : List Int) (n : Nat) : (upTo cs n).length = n := by simp [upTo]
theorem upTo_succ (cs : List Int) (n : Nat) : upTo cs (n + 1) = upTo cs n ++ [cs.getD n 0] := by simp [upTo, List.range_succ]
theorem upTo_all (cs : List Int) : upTo cs cs.length = cs := by
  apply List.ext_getElem (by simp [upTo])
  intro j h1 h2
  simp [upTo, List.getD, h2]
theorem upTo_congr {cs ds : List Int} {n : Nat} (h : ∀ j, j < n → cs.getD j 0 = ds.getD j 0) : upTo cs n = upTo ds n := by
  unfold upTo
  exact List.map_congr_left fun j hj => h j (List.mem_range.1 hj)
/-- The bidding at g behind the first n calls of cs. -/
def St (w : World) (g : Nat) (d : Int) (cs : List Int) (n : Nat) : Prop := ∃ v, PBox w g d v (bidP cs n) (sidP d cs n) (stTo cs n) (passTo cs n) ∧ OwnV w (g + 1) v (upTo cs n)
theorem St.lt {w : World} {g n : Nat} {d : Int} {cs : List Int} (h : St w g d cs n) : g < w.heap.size := by obtain ⟨_, h, _⟩ := h; exact h.lt
theorem St.still {w w' : World} {g n : Nat} {d : Int} {cs : List Int} (h : St w g d cs n) (c : Chg w w' 0 0) : St w' g d cs n := by
  obtain ⟨v, h1, h2⟩ := h
  exact ⟨v, h1.still c, h2.chg c (Nat.zero_le _)⟩
theorem St.congr {w : World} {g n : Nat} {d : Int} {cs ds : List Int} (h : St w g d cs n) (e : ∀ j, j < n → cs.getD j 0 = ds.getD j 0) : St w g d ds n := by
  obtain ⟨v, h1, h2⟩ := h
  refine ⟨v, ?_, by rw [← upTo_congr e]; exact h2⟩
  unfold bidP sidP at h1 ⊢
  rw [← bidTo_congr n e, ← stTo_congr n e, ← atTo_congr n e, ← passTo_congr n e]
  exact h1
theorem St.open {w : World} {g n : Nat} {d : Int} {cs : List Int} (h : St w g d cs n) : ∃ A c, n ≤ c ∧ PBox w g d (.slice A n c) (bidP cs n) (sidP d cs n) (stTo cs n) (passTo cs n) ∧ OwnV w (g + 1) (.slice A n c) (upTo cs n) := by
  obtain ⟨v, h1, h2⟩ := h
  obtain ⟨A, c, rfl, hc, _, _⟩ := h2.form_at (upTo_len cs n)
  exact ⟨A, c, hc, h1, h2⟩
theorem allow_is {d : Int} {cs : List Int} {n : Nat} (hv : validTo cs n = true) (x : Int) : allowV ((d + (n : Int)) % 4 % 2) (bidP cs n) (sidP d cs n) (stTo cs n) (passTo cs n) x = (!overTo cs n && legTo cs n x) := by
  unfold allowV endP'
  rw [← endP hv]
  by_cases h0 : x = 0
  · subst h0; rfl
  rw [if_neg h0]
  by_cases h1 : x = 1
  · subst h1; rw [if_pos rfl, ← dblP]
  rw [if_neg h1]
  by_cases h2 : x = 2
  · subst h2; rw [if_pos rfl, ← rdbP]
  rw [if_neg h2, bidleg h0 h1 h2]

set_option maxHeartbeats 4000000 in
theorem add7 (g : Nat) (d x : Int) (cs : List Int) (n : Nat) (w : World) (h : St w g d cs n) (hv : validTo cs n = true) (hd : 0 ≤ d ∧ d ≤ 3) (hx : cs.getD n 0 = x) :
    Calls Try.prog 50 #[.pointer (some ⟨g, 0, none⟩), .int .i64 x] w fun e w' => e = .returned (.bool (!overTo cs n && legTo cs n x)) ∧ ((!overTo cs n && legTo cs n x) = true → St w' g d cs (n + 1)) ∧ Below g w w' := by
  have hn := valid_319 hv
  have hP := pass_small hv
  have hall := allow_is (d := d) hv x
  have htake : Hid (upTo cs (n + 1) = upTo cs n ++ [x]) := by show _ = _; rw [upTo_succ, hx]
  have hlen : (upTo cs n).length ≤ 1048576 := by rw [upTo_len]; omega
  have hlen1 : (upTo cs n ++ [x]).length = n + 1 := by rw [List.length_append, upTo_len]; rfl
  have hb37 : Hid (bidP cs n = 0 ∨ 3 ≤ bidP cs n) := by have := bidP_range cs n; show _ ∨ _; omega
  obtain ⟨A, c, hcap, hb, ho⟩ := h.open
  have hg := hb.lt
  have HX := Lib.hid hx
  have hcall : (!overTo cs n && legTo cs n x) = true → 0 ≤ x ∧ x ≤ 37 := fun e => leg_call (Bool.and_eq_true_iff.1 e).2
  have hyes := fun e => turns_bid (d := d) (cs := cs) (k := n) e
  have hnot := fun e => turns_not (d := d) (cs := cs) (k := n) e
  rw [hx] at hyes hnot
  clear h hx hv
  generalize upTo cs n = us at ho htake hlen hlen1
  obtain ⟨R, hR⟩ : ∃ R, R = (!overTo cs n && legTo cs n x) := ⟨_, rfl⟩
  rw [← hR] at hall hcall ⊢
  generalize bidP cs n = B at hb hall hyes hnot hb37
  generalize sidP d cs n = S at hb hall hyes hnot
  generalize stTo cs n = Q at hb hall hyes hnot
  generalize passTo cs n = P at hb hall hyes hnot hP
  clear hR
  have H0 := Lib.hid hb
  have O0 := Lib.hid ho
  have HA := Lib.hid hall
  clear hb ho hall
  go_enter Try.func50, Try.ntmps50
  go_wp2_with fail
  refine (allows7 g d A n c B S Q P x _ H0.out hd (by omega) (by omega)).mono ?_
  rw [HA.out]
  rintro e w1 ⟨rfl, c1⟩
  have H1 := Lib.hid (H0.out.still c1)
  have O1 := Lib.hid (O0.out.chg c1 (Nat.zero_le _))
  have K1 := Lib.hid (Chg.above (Below.refl g w) c1 (by omega) (.inr rfl))
  have z1 := c1.size
  have hg1 : g < w1.heap.size := by omega
  clear c1 H0 O0 HA z1
  cases R
  · clear hyes hnot hcall
    go_wp2
    go_ret
    exact ⟨rfl, fun e => absurd e (by simp), K1.out⟩
  obtain ⟨x0, x37⟩ := hcall rfl
  have q1 := H1.out.c1
  have q2 := H1.out.c2
  have q4 := H1.out.c4
  have q5 := H1.out.c5
  have f2 := H1.out.fr 2
  have f4 := H1.out.fr 4
  have f5 := H1.out.fr 5
  clear hcall
  by_cases e0 : x = 0
  · subst e0
    have HT := Lib.hid (hnot (by omega))
    clear hyes hnot
    have bi : inB 0 3 37 = false := by decide
    have H2 : Hid (PBox (w1.setCell ⟨g, 5, none⟩ (.int .i64 ((P : Int) + 1))) g d (.slice A n c) B S Q (P + 1)) := H1.out.set5 (P + 1)
    have k2 := Chg.setG (g := g) (lo := g) (hi := g + 1) w1 5 (.int .i64 ((P : Int) + 1)) (Nat.le_refl _) (by omega)
    have O2 := Lib.hid (O1.out.chg k2 (Nat.le_refl _))
    have K2 := Lib.hid (K1.out.trans (Chg.above (Below.refl g w1) k2 (by omega) (.inl (Nat.le_refl _))))
    have hg2 : g < (w1.setCell ⟨g, 5, none⟩ (.int .i64 ((P : Int) + 1))).heap.size := by have := k2.size; omega
    clear k2 H1 O1 K1
    go_wp2_with fail
    generalize w1.setCell ⟨g, 5, none⟩ (.int .i64 ((P : Int) + 1)) = w2 at H2 O2 K2 hg2 ⊢
    clear q1 q2 q4 q5 f2 f4 f5 hg1
    have q1 := H2.out.c1
    refine (isBid 0 _).mono ?_
    rw [bi]
    rintro e w' ⟨rfl, rfl⟩
    go_wp2_with (at_builtin; refine wpList_push rfl (.tmp 54) (.tmp 56) rfl (g + 1) _ _ rfl O2.out _ (by first | rfl | (rw [HZ.out]; rfl)) hlen hg2 ?_; intro v2 w5 o2 b2; obtain ⟨A2, c2, rfl, _, _, _⟩ := o2.form_at (n := n + 1) hlen1; have H5 := Lib.hid (H2.out.below b2 (by omega)); have O5 := Lib.hid o2; have B5 := Lib.hid b2; clear o2 b2; have e1 := H5.out.c1; have e2 := H5.out.fr 1)
    go_ret
    have hsz := B5.out.size
    have hlt := H5.out.lt
    refine ⟨rfl, ?_, ?_⟩
    · (try intro _)
      refine ⟨_, by rw [HT.out.1, HT.out.2.1, HT.out.2.2.1, HT.out.2.2.2]; exact H5.out.set1 _, ?_⟩
      rw [htake.out]
      exact O5.out.chg (Chg.setG (lo := g) (hi := g + 1) w5 1 _ (Nat.le_refl _) (by omega)) (Nat.le_refl _)
    · exact (K2.out.trans (B5.out.mono (by omega))).trans (Chg.above (Below.refl g w5) (Chg.setG (lo := g) (hi := g + 1) w5 1 _ (Nat.le_refl _) (by omega)) (by omega) (.inl (Nat.le_refl _)))
  by_cases e1 : x = 1
  · subst e1
    have HT := Lib.hid (hnot (by omega))
    clear hyes hnot
    have H3 : Hid (PBox ((w1.setCell ⟨g, 5, none⟩ (.int .i64 0)).setCell ⟨g, 4, none⟩ (.int .i64 1)) g d (.slice A n c) B S 1 0) := (H1.out.set5 0).set4 1
    have k2 := Chg.setG (g := g) (lo := g) (hi := g + 1) w1 5 (.int .i64 0) (Nat.le_refl _) (by omega)
    have k3 := Chg.setG (g := g) (lo := g) (hi := g + 1) (w1.setCell ⟨g, 5, none⟩ (.int .i64 0)) 4 (.int .i64 1) (Nat.le_refl _) (by omega)
    have O3 := Lib.hid (O1.out.chg (k2.trans k3) (Nat.le_refl _))
    have K3 := Lib.hid (K1.out.trans (Chg.above (Below.refl g w1) (k2.trans k3) (by omega) (.inl (Nat.le_refl _))))
    have hg3 : g < ((w1.setCell ⟨g, 5, none⟩ (.int .i64 0)).setCell ⟨g, 4, none⟩ (.int .i64 1)).heap.size := by have := (k2.trans k3).size; omega
    have HZ : Hid (((w1.setCell ⟨g, 5, none⟩ (.int .i64 0)).setCell ⟨g, 4, none⟩ (.int .i64 1)).heap.size = w1.heap.size) := by show _ = _; simp [World.setCell]
    have q1 := H3.out.c1
    clear k2 k3 H1 O1 K1
    go_wp2_with (at_builtin; refine wpList_push rfl (.tmp 54) (.tmp 56) rfl (g + 1) _ _ rfl O3.out _ (by first | rfl | (rw [HZ.out]; rfl)) hlen hg3 ?_; intro v2 w5 o2 b2; obtain ⟨A2, c2, rfl, _, _, _⟩ := o2.form_at (n := n + 1) hlen1; have H5 := Lib.hid (H3.out.below b2 (by omega)); have O5 := Lib.hid o2; have B5 := Lib.hid b2; clear o2 b2; have e1 := H5.out.c1; have e2 := H5.out.fr 1)
    go_ret
    have hsz := B5.out.size
    have hlt := H5.out.lt
    refine ⟨rfl, ?_, ?_⟩
    · (try intro _)
      refine ⟨_, by rw [HT.out.1, HT.out.2.1, HT.out.2.2.1, HT.out.2.2.2]; exact H5.out.set1 _, ?_⟩
      rw [htake.out]
      exact O5.out.chg (Chg.setG (lo := g) (hi := g + 1) w5 1 _ (Nat.le_refl _) (by omega)) (Nat.le_refl _)
    · exact (K3.out.trans (B5.out.mono (by omega))).trans (Chg.above (Below.refl g w5) (Chg.setG (lo := g) (hi := g + 1) w5 1 _ (Nat.le_refl _) (by omega)) (by omega) (.inl (Nat.le_refl _)))
  by_cases e2 : x = 2
  · subst e2
    have HT := Lib.hid (hnot (by omega))
    clear hyes hnot
    have H3 : Hid (PBox ((w1.setCell ⟨g, 5, none⟩ (.int .i64 0)).setCell ⟨g, 4, none⟩ (.int .i64 2)) g d (.slice A n c) B S 2 0) := (H1.out.set5 0).set4 2
    have k2 := Chg.setG (g := g) (lo := g) (hi := g + 1) w1 5 (.int .i64 0) (Nat.le_refl _) (by omega)
    have k3 := Chg.setG (g := g) (lo := g) (hi := g + 1) (w1.setCell ⟨g, 5, none⟩ (.int .i64 0)) 4 (.int .i64 2) (Nat.le_refl _) (by omega)
    have O3 := Lib.hid (O1.out.chg (k2.trans k3) (Nat.le_refl _))
    have K3 := Lib.hid (K1.out.trans (Chg.above (Below.refl g w1) (k2.trans k3) (by omega) (.inl (Nat.le_refl _))))
    have hg3 : g < ((w1.setCell ⟨g, 5, none⟩ (.int .i64 0)).setCell ⟨g, 4, none⟩ (.int .i64 2)).heap.size := by have := (k2.trans k3).size; omega
    have HZ : Hid (((w1.setCell ⟨g, 5, none⟩ (.int .i64 0)).setCell ⟨g, 4, none⟩ (.int .i64 2)).heap.size = w1.heap.size) := by show _ = _; simp [World.setCell]
    have q1 := H3.out.c1
    clear k2 k3 H1 O1 K1
    go_wp2_with (at_builtin; refine wpList_push rfl (.tmp 54) (.tmp 56) rfl (g + 1) _ _ rfl O3.out _ (by first | rfl | (rw [HZ.out]; rfl)) hlen hg3 ?_; intro v2 w5 o2 b2; obtain ⟨A2, c2, rfl, _, _, _⟩ := o2.form_at (n := n + 1) hlen1; have H5 := Lib.hid (H3.out.below b2 (by omega)); have O5 := Lib.hid o2; have B5 := Lib.hid b2; clear o2 b2; have e1 := H5.out.c1; have e2 := H5.out.fr 1)
    go_ret
    have hsz := B5.out.size
    have hlt := H5.out.lt
    refine ⟨rfl, ?_, ?_⟩
    · (try intro _)
      refine ⟨_, by rw [HT.out.1, HT.out.2.1, HT.out.2.2.1, HT.out.2.2.2]; exact H5.out.set1 _, ?_⟩
      rw [htake.out]
      exact O5.out.chg (Chg.setG (lo := g) (hi := g + 1) w5 1 _ (Nat.le_refl _) (by omega)) (Nat.le_refl _)
    · exact (K3.out.trans (B5.out.mono (by omega))).trans (Chg.above (Below.refl g w5) (Chg.setG (lo := g) (hi := g + 1) w5 1 _ (Nat.le_refl _) (by omega)) (by omega) (.inl (Nat.le_refl _)))
  have bi : inB x 3 37 = true := inB_true (by omega)
  have HT := Lib.hid (hyes (by omega))
  have p0 : (x == 0) = false := by simpa using e0
  have p1 : (x == 1) = false := by simpa using e1
  have p2 : (x == 2) = false := by simpa using e2
  clear hyes hnot e0 e1 e2
  have H2 : Hid (PBox (w1.setCell ⟨g, 5, none⟩ (.int .i64 0)) g d (.slice A n c) B S Q 0) := H1.out.set5 0
  have k2 := Chg.setG (g := g) (lo := g) (hi := g + 1) w1 5 (.int .i64 0) (Nat.le_refl _) (by omega)
  have O2 := Lib.hid (O1.out.chg k2 (Nat.le_refl _))
  have K2 := Lib.hid (K1.out.trans (Chg.above (Below.refl g w1) k2 (by omega) (.inl (Nat.le_refl _))))
  have hg2 : g < (w1.setCell ⟨g, 5, none⟩ (.int .i64 0)).heap.size := by have := k2.size; omega
  clear k2 H1 O1 K1
  go_wp2_with fail
  generalize w1.setCell ⟨g, 5, none⟩ (.int .i64 0) = w2 at H2 O2 K2 hg2 ⊢
  clear q1 q2 q4 q5 f2 f4 f5 hg1
  refine (isBid x _).mono ?_
  rw [bi]
  rintro e w' ⟨rfl, rfl⟩
  go_wp2_with fail
  refine (turn7 g d A n c B S Q 0 _ H2.out hd (by omega)).mono ?_
  rintro e w3 ⟨rfl, c3⟩
  have H3 := Lib.hid (H2.out.still c3)
  have O3 := Lib.hid (O2.out.chg c3 (Nat.zero_le _))
  have K3 := Lib.hid (K2.out.trans (Chg.above (Below.refl g w2) c3 (by omega) (.inr rfl)))
  have z3 := c3.size
  have hg3 : g < w3.heap.size := by omega
  clear c3 H2 O2 K2 z3 hg2
  obtain ⟨t, ht⟩ : ∃ t, t = (d + (n : Int)) % 4 := ⟨_, rfl⟩
  rw [← ht] at HT ⊢
  have t0 : 0 ≤ t := by omega
  clear ht
  go_wp2_with fail
  refine (sideOf7 t _ t0).mono ?_
  rintro e w' ⟨rfl, rfl⟩
  generalize t % 2 = u at HT ⊢
  have q2 := H3.out.c2
  have f2 := H3.out.fr 2
  have T4 := Lib.hid (H3.out.set2 x).there3
  have H4 := Lib.hid ((H3.out.set2 x).set34 u 0)
  have k4 := (Chg.setG (g := g) (lo := g) (hi := g + 1) w3 2 (.int .i64 x) (Nat.le_refl _) (by omega)).trans (Chg.setG34 (g := g) (lo := g) (hi := g + 1) (w3.setCell ⟨g, 2, none⟩ (.int .i64 x)) (.int .i64 u) (.int .i64 0) (Nat.le_refl _) (by omega))
  have O4 := Lib.hid (O3.out.chg k4 (Nat.le_refl _))
  have K4 := Lib.hid (K3.out.trans (Chg.above (Below.refl g w3) k4 (by omega) (.inl (Nat.le_refl _))))
  have hg4 : g < ((w3.setCell ⟨g, 2, none⟩ (.int .i64 x)).setCells g 3 [.int .i64 u, .int .i64 0]).heap.size := by have := k4.size; omega
  clear k4 H3 O3 K3 hg3
  go_wp2_with (first | (refine wpList_store_mid rfl 66 _ _ rfl g 3 #[.int .i64 u, .int .i64 0] rfl rfl T4.out (std_info7a _ _) (std_cells7 _ _) ?_; change wpList _ _ _ _ _ ((w3.setCell ⟨g, 2, none⟩ (.int .i64 x)).setCells g 3 [.int .i64 u, .int .i64 0]); generalize (w3.setCell ⟨g, 2, none⟩ (.int .i64 x)).setCells g 3 [.int .i64 u, .int .i64 0] = w4 at H4 O4 K4 hg4 ⊢; clear q2 f2 T4; have q1 := H4.out.c1) | (at_builtin; refine wpList_push rfl (.tmp 54) (.tmp 56) rfl (g + 1) _ _ rfl O4.out _ (by first | rfl | (rw [HZ.out]; rfl)) hlen hg4 ?_; intro v2 w5 o2 b2; obtain ⟨A2, c2, rfl, _, _, _⟩ := o2.form_at (n := n + 1) hlen1; have H5 := Lib.hid (H4.out.below b2 (by omega)); have O5 := Lib.hid o2; have B5 := Lib.hid b2; clear o2 b2; have e1 := H5.out.c1; have e2 := H5.out.fr 1))
  go_ret
  have hsz := B5.out.size
  have hlt := H5.out.lt
  refine ⟨rfl, ?_, ?_⟩
  · (try intro _)
    refine ⟨_, by rw [HT.out.1, HT.out.2.1, HT.out.2.2.1, HT.out.2.2.2]; exact H5.out.set1 _, ?_⟩
    rw [htake.out]
    exact O5.out.chg (Chg.setG (lo := g) (hi := g + 1) w5 1 _ (Nat.le_refl _) (by omega)) (Nat.le_refl _)
  · exact (K4.out.trans (B5.out.mono (by omega))).trans (Chg.above (Below.refl g w5) (Chg.setG (lo := g) (hi := g + 1) w5 1 _ (Nat.le_refl _) (by omega)) (by omega) (.inl (Nat.le_refl _)))

theorem ret_pb {g : Nat} {b b' : Bool} (h : b = b') : Ending.returned (.tuple #[.pointer (some ⟨g, 0, none⟩), .bool b]) = .returned (.tuple #[.pointer (some ⟨g, 0, none⟩), .bool b']) := by rw [h]
theorem bld26 (d : Int) : Try.prog.built 26 [(0, .int .i64 d)] = some #[.int .i64 d, .slice none 0 0] := by kernel_rfl
theorem bld66 : Try.prog.built 66 [(0, .int .i64 (-1))] = some #[.int .i64 (-1), .int .i64 0] := by kernel_rfl
theorem bld68 (d : Int) : Try.prog.built 68 [(0, .agg #[.int .i64 d, .slice none 0 0]), (1, .int .i64 0), (2, .agg #[.int .i64 (-1), .int .i64 0])] = some #[.int .i64 d, .slice none 0 0, .int .i64 0, .int .i64 (-1), .int .i64 0, .int .i64 0] := by kernel_rfl
/-- The bidding with no call. -/
theorem St.none_ (w : World) (d : Int) (zs : List Int) : St (w.alloc (.cells #[.int .i64 d, .slice none 0 0, .int .i64 0, .int .i64 (-1), .int .i64 0, .int .i64 0] 68)) w.heap.size d zs 0 :=
  ⟨.slice none 0 0, heap_alloc_new w _, OwnV.nil_ _ _⟩
set_option maxHeartbeats 4000000 in
theorem biddingOf7 (d : Int) (A : Option Addr) (n c : Nat) (zs : List Int) (w : World) (h : Rp w A n zs) (hn : n ≤ 1048576) (hcap : n ≤ c) :
    Calls Try.prog 47 #[.agg #[.int .i64 d, .slice A n c]] w fun e w' => ∃ g, e = .returned (.tuple #[.pointer (some ⟨g, 0, none⟩), .bool (inB d 0 3 && validTo zs n)]) ∧ w.heap.size ≤ g ∧ g < w'.heap.size ∧ Below w.heap.size w w' ∧ ((inB d 0 3 && validTo zs n) = true → St w' g d zs n) := by
  have e1 : (w.alloc (.cells #[.int .i64 d, .slice A n c] 26)).heap.size = w.heap.size + 1 := by simp
  have B0 := Lib.hid ((ABox.new w d A n c).still (Chg.of_alloc (w.alloc (.cells #[.int .i64 d, .slice A n c] 26)) (.cells #[.int .i64 d, .slice none 0 0, .int .i64 0, .int .i64 (-1), .int .i64 0, .int .i64 0] 68) 0 0))
  have S0 := St.none_ (w.alloc (.cells #[.int .i64 d, .slice A n c] 26)) d zs
  rw [e1] at S0
  have S0 := Lib.hid S0
  have K0 := Lib.hid (((Chg.of_alloc w (.cells #[.int .i64 d, .slice A n c] 26) 0 0).trans (Chg.of_alloc (w.alloc (.cells #[.int .i64 d, .slice A n c] 26)) (.cells #[.int .i64 d, .slice none 0 0, .int .i64 0, .int .i64 (-1), .int .i64 0, .int .i64 0] 68) 0 0)).to_below)
  have H := Lib.hid h
  clear h
  have b1 := bld26 d
  have b2 := bld66
  have b3 := bld68 d
  obtain ⟨g, hgd⟩ : ∃ g, g = w.heap.size + 1 := ⟨_, rfl⟩
  have HG := Lib.hid hgd
  have hg0 : w.heap.size < g := by omega
  rw [← hgd] at S0
  go_enter Try.func47, Try.ntmps47
  go_wp2_with fail
  rw [← hgd]
  clear b1 b2 b3 hgd e1
  generalize ((w.alloc (.cells #[.int .i64 d, .slice A n c] 26)).alloc (.cells #[.int .i64 d, .slice none 0 0, .int .i64 0, .int .i64 (-1), .int .i64 0, .int .i64 0] 68)) = W at B0 S0 K0 ⊢
  have hb1 := B0.out.c1
  refine (isSeat7 d _).mono ?_
  rintro e w' ⟨rfl, rfl⟩
  cases hi : inB d 0 3
  · go_wp2
    go_ret2
    exact ⟨g, ret_pb (by rw [hi]; rfl), by omega, S0.out.lt, K0.out, fun e => by rw [hi] at e; simp at e⟩
  have hd : 0 ≤ d ∧ d ≤ 3 := by simpa [inB] using hi
  have HI := Lib.hid hi
  clear hi B0
  go_wp2_with fail
  go_loopw [21] (fun i wr => ∃ k : Nat, k ≤ n ∧ i = .int .i64 k ∧ Hid (St wr g d zs k) ∧ Hid (validTo zs k = true) ∧ Hid (Below w.heap.size w wr)) (fun i _ => n - (intOf i).toNat)
  case atStart => exact ⟨0, Nat.zero_le _, rfl, S0.out, rfl, K0.out⟩
  case round =>
    obtain ⟨k, hk, rfl, hs, hv, hb⟩ := hrel
    by_cases hlt : k < n
    · obtain ⟨b, off, rfl, hc⟩ := H.out (by omega)
      have hck := hc k hlt
      have hkl : (k : Int) < (n : Int) := by omega
      have hcr : wr.cell? ⟨b, off + k, none⟩ = some (.int .i64 (zs.getD k 0)) := by rw [World.cell?_of_block (hb.out.block b (lt_of_cell hck))]; exact hck
      clear hc hck
      obtain ⟨x, hx⟩ : ∃ x, zs.getD k 0 = x := ⟨_, rfl⟩
      rw [hx] at hcr
      have HX := Lib.hid hx
      clear hx
      go_wp2_with fail
      refine (add7 g d x zs k _ hs.out hv.out hd HX.out).mono ?_
      rintro e w2 ⟨rfl, hs2, hb2⟩
      have HS2 := Lib.hid hs2
      have HB2 := Lib.hid (hb.out.trans (hb2.mono (by omega)))
      have hg2 : g < w2.heap.size := by have := hb2.size; have := hs.out.lt; omega
      have HV : Hid (validTo zs (k + 1) = (!overTo zs k && legTo zs k x)) := by show _ = _; rw [valid_step hv.out, HX.out]
      clear hs2 hb2 hcr
      generalize (!overTo zs k && legTo zs k x) = r at HS2 HV ⊢
      cases r
      · have hf : Hid (validTo zs n = false) := by
          show validTo zs n = false
          cases hq : validTo zs n
          · rfl
          · exact absurd (valid_le (show k + 1 ≤ n by omega) hq) (by rw [HV.out]; simp)
        go_wp2
        go_ret2
        exact ⟨g, ret_pb (by rw [hf.out]; simp), by omega, hg2, HB2.out, fun e => by rw [hf.out] at e; simp at e⟩
      · go_wp2
        go_roundw
        case rel => exact ⟨k + 1, by omega, by go_num, HS2.out (by first | rfl | trivial), HV.out, HB2.out⟩
        case measure => simp [intOf]; omega
    · obtain rfl : k = n := by omega
      go_wp2
      go_ret2
      exact ⟨g, ret_pb (by rw [hv.out, HI.out]; rfl), by omega, hs.out.lt, hb.out, fun _ => hs.out⟩
end Go.Proofs.Ytnkbcmkngghnoaa.Lib1
