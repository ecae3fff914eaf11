/- Chapter 3: the model's RotateDeal. -/
import Derived.Test.YtdfmkikngifjmaaS03m
namespace Go.Proofs.Ytdfmkikngifjmaa.Lib1
open Go.RowKit
set_option maxRecDepth 100000

/-- The hand that seat s gets when a deal is turned by k. -/
def rotRow (zss : List (List Int)) (k : Int) (s : Nat) : List Int := zss.getD (((s : Int) + 4 - k) % 4).toNat []
def rotTo (zss : List (List Int)) (k : Int) : Nat → List (List Int)
  | 0 => []
  | s + 1 => rotTo zss k s ++ [rotRow zss k s]
def rotV (zss : List (List Int)) (k : Int) : List (List Int) := if dealB zss && inB k 0 3 then rotTo zss k 4 else []
def rotE (zss : List (List Int)) (k : Int) : Int := if dealB zss then (if inB k 0 3 then 0 else 2) else 1
theorem rotTo_length (zss : List (List Int)) (k : Int) : ∀ s, (rotTo zss k s).length = s
  | 0 => rfl
  | s + 1 => by simp [rotTo, rotTo_length zss k s]

/-- A function hands back a deal of its own and a number. -/
def RetDI (w : World) (zss : List (List Int)) (x : Int) (e : Ending) (w' : World) : Prop :=
  ∃ A c, e = .returned (.tuple #[.agg #[.slice A zss.length c], .int .i64 x]) ∧ zss.length ≤ c ∧ OwnR w' w.heap.size w'.heap.size A zss.length zss ∧ Chg w w' 0 0

/-- The boxes of a function that makes a deal late: its argument, its result, and, at g, the deal. -/
structure BoxG (w wr : World) (g : Nat) (x r v : Value) : Prop where
  b0 : wr.heap[w.heap.size]? = some (.cells #[x] 25 (0, 0))
  b1 : wr.heap[w.heap.size + 1]? = some (.cells #[r] 25 (0, 0))
  b2 : wr.heap[g]? = some (.cells #[v] 25 (0, 0))
theorem BoxG.c0 {w wr : World} {g : Nat} {x r v : Value} (h : BoxG w wr g x r v) : wr.cell? ⟨w.heap.size, 0, none⟩ = some x := by rw [cell_of_row _ _ _ _ _ _ h.b0]; rfl
theorem BoxG.c1 {w wr : World} {g : Nat} {x r v : Value} (h : BoxG w wr g x r v) : wr.cell? ⟨w.heap.size + 1, 0, none⟩ = some r := by rw [cell_of_row _ _ _ _ _ _ h.b1]; rfl
theorem BoxG.c2 {w wr : World} {g : Nat} {x r v : Value} (h : BoxG w wr g x r v) : wr.cell? ⟨g, 0, none⟩ = some v := by rw [cell_of_row _ _ _ _ _ _ h.b2]; rfl
theorem BoxG.f1 {w wr : World} {g : Nat} {x r v : Value} (h : BoxG w wr g x r v) : wr.frozen? ⟨w.heap.size + 1, 0, none⟩ = false := by simp [World.frozen?, h.b1]
theorem BoxG.f2 {w wr : World} {g : Nat} {x r v : Value} (h : BoxG w wr g x r v) : wr.frozen? ⟨g, 0, none⟩ = false := by simp [World.frozen?, h.b2]
theorem BoxG.below {w wr w' : World} {g : Nat} {x r v : Value} (h : BoxG w wr g x r v) (b : Below (g + 1) wr w') (hg : w.heap.size + 2 ≤ g) : BoxG w w' g x r v :=
  ⟨(b.block _ (by omega)).trans h.b0, (b.block _ (by omega)).trans h.b1, (b.block _ (by omega)).trans h.b2⟩
theorem BoxG.put {w wr : World} {g : Nat} {x r v : Value} (h : BoxG w wr g x r v) (hg : w.heap.size + 2 ≤ g) (u : Value) : BoxG w (wr.setCell ⟨g, 0, none⟩ u) g x r u :=
  ⟨(Below.heap_setCell _ _ _ _ (by show w.heap.size ≠ g; omega)).trans h.b0, (Below.heap_setCell _ _ _ _ (by show w.heap.size + 1 ≠ g; omega)).trans h.b1, by simp [World.setCell, Array.getElem?_modify, h.b2]⟩
theorem BoxG.ret {w wr : World} {g : Nat} {x r v : Value} (h : BoxG w wr g x r v) (u : Value) : (wr.setCell ⟨w.heap.size + 1, 0, none⟩ u).cell? ⟨w.heap.size + 1, 0, none⟩ = some u := by
  rw [cell_of_row _ _ _ #[u] 25 (0, 0) (by simp [World.setCell, Array.getElem?_modify, h.b1])]; rfl
theorem BoxG.start {w w1 : World} {x r : Value} (h : Box2 w w1 x r) (v : Value) : BoxG w (w1.alloc (.cells #[v] 25)) w1.heap.size x r v :=
  ⟨(Below.heap_alloc _ _ _ (lt_of_block h.b0)).trans h.b0, (Below.heap_alloc _ _ _ (lt_of_block h.b1)).trans h.b1, heap_alloc_new _ _⟩

set_option maxHeartbeats 4000000 in
/-- spec.RotateDeal -/
theorem spec_RotateDeal (A : Option Addr) (n c : Nat) (k : Int) (zss : List (List Int)) (lo hi : Nat) (w : World) (h : RdR w lo hi A n zss) (hn : n ≤ 1048576) (hl : ∀ j, j < n → (zss.getD j []).length ≤ 1048576) :
    Calls Try.prog 48 #[.agg #[.slice A n c], .int .i64 k] w (RetDI w (rotV zss k) (rotE zss k)) := by
  have c2 := Lib.hid ((Chg.of_alloc w (.cells #[.slice A n c] 25) 0 0).trans (Chg.of_alloc _ (.cells #[.slice none 0 0] 25) 0 0))
  cases hd : dealB zss with
  | false =>
    have hv : Hid (rotV zss k = []) := by show _ = _; simp [rotV, hd]
    have he : Hid (rotE zss k = 1) := by show _ = _; simp [rotE, hd]
    have HD := Lib.hid hd
    rw [hv.out, he.out]
    go_enter Try.func48, Try.ntmps48
    go_wp2_with fail
    refine (l03Deal A n c zss lo hi _ (h.still c2.out) hl).mono ?_
    rintro e w1 ⟨rfl, c1⟩
    rw [HD.out]
    have hbx := Box2.start w (.slice A n c) (.slice none 0 0)
    have hb1 := (hbx.still c1).c1
    have hf1 := (hbx.still c1).f1
    have hret := fun u => (hbx.still c1).ret u
    have hcf := Lib.hid (((c2.out.trans c1).cell (g := w.heap.size + 1) (i := 0) (v := .slice none 0 0) (by omega)))
    clear hbx c1
    go_wp2_with fail
    (try simp only [Exit.inBlock, Exit.then])
    refine bodyPost_ret (v := .tuple #[.agg #[.slice none 0 0], .int .i64 1]) (by simp [results, Try.results48, go_sem, hret]; try rfl) rfl ?_
    exact ⟨none, 0, rfl, Nat.le_refl _, OwnR.none_, hcf.out⟩
  | true =>
    have hz4 : n = 4 := by rw [← h.1]; exact ((deal_iff zss).1 hd).1
    subst hz4
    have HD := Lib.hid hd
    cases hk : inB k 0 3 with
    | false =>
      have hv : Hid (rotV zss k = []) := by show _ = _; simp [rotV, hk]
      have he : Hid (rotE zss k = 2) := by show _ = _; simp [rotE, hd, hk]
      have HK := Lib.hid hk
      rw [hv.out, he.out]
      go_enter Try.func48, Try.ntmps48
      go_wp2_with fail
      refine (l03Deal A 4 c zss lo hi _ (h.still c2.out) hl).mono ?_
      rintro e w1 ⟨rfl, c1⟩
      rw [HD.out]
      have hbx := Box2.start w (.slice A 4 c) (.slice none 0 0)
      have hb1 := (hbx.still c1).c1
      have hf1 := (hbx.still c1).f1
      have hret := fun u => (hbx.still c1).ret u
      have hcf := Lib.hid (((c2.out.trans c1).cell (g := w.heap.size + 1) (i := 0) (v := .slice none 0 0) (by omega)))
      clear hbx c1 hk
      go_wp2_with fail
      refine (l01In k 0 3 _).mono ?_
      rintro e w' ⟨rfl, rfl⟩
      rw [HK.out]
      go_wp2_with fail
      (try simp only [Exit.inBlock, Exit.then])
      refine bodyPost_ret (v := .tuple #[.agg #[.slice none 0 0], .int .i64 2]) (by simp [results, Try.results48, go_sem, hret]; try rfl) rfl ?_
      exact ⟨none, 0, rfl, Nat.le_refl _, OwnR.none_, hcf.out⟩
    | true =>
      have hv : Hid (rotV zss k = rotTo zss k 4) := by show _ = _; simp [rotV, hd, hk]
      have he : Hid (rotE zss k = 0) := by show _ = _; simp [rotE, hd, hk]
      have HK := Lib.hid hk
      have hz := h.1
      rw [hv.out, he.out]
      have hk3 : 0 ≤ k ∧ k ≤ 3 := by
        by_cases q : 0 ≤ k ∧ k ≤ 3
        · exact q
        · rw [inB_false q] at hk; cases hk
      clear hk
      go_enter Try.func48, Try.ntmps48
      go_wp2_with fail
      refine (l03Deal A 4 c zss lo hi _ (h.still c2.out) hl).mono ?_
      rintro e w1 ⟨rfl, c1⟩
      rw [HD.out]
      have hbx := (Box2.start w (.slice A 4 c) (.slice none 0 0)).still c1
      have c12 := Lib.hid (c2.out.trans c1)
      clear c1
      go_wp2_with fail
      refine (l01In k 0 3 _).mono ?_
      rintro e w' ⟨rfl, rfl⟩
      rw [HK.out]
      go_wp2_with fail
      have hz2 : w.heap.size + 2 ≤ w1.heap.size := lt_of_block hbx.b1
      have hst := BoxG.start hbx (.slice none 0 0)
      have hbl : Below w.heap.size w (w1.alloc (.cells #[.slice none 0 0] 25)) := c12.out.to_below.alloc (by omega) _
      generalize hg : w1.heap.size = g at hz2 hst
      have hs1 : (w1.alloc (.cells #[.slice none 0 0] 25)).heap.size = g + 1 := by simp [hg]
      clear hbx hg
      generalize w1.alloc (.cells #[.slice none 0 0] 25) = w2 at hst hbl hs1
      go_loopw [7] (fun i wr => ∃ (s : Nat) (v : Value), s ≤ 4 ∧ i = .int .i64 s ∧ Hid (BoxG w wr g (.slice A 4 c) (.slice none 0 0) v) ∧ OwnVR wr (g + 1) v (rotTo zss k s) ∧ Below w.heap.size w wr ∧ g + 1 ≤ wr.heap.size) (fun i _ => 4 - (intOf i).toNat)
      case atStart => exact ⟨0, _, by omega, rfl, hst, OwnVR.nil_ _ _, hbl, by omega⟩
      case round =>
        clear hst hbl hs1
        obtain ⟨s, v, hs, rfl, hbox, ho, hb, hs3⟩ := hrel
        have hb0 := hbox.out.c0
        by_cases hlt : s < 4
        · have hsl : (s : Int) < 4 := by omega
          obtain ⟨j, hj⟩ : ∃ j : Nat, ((s : Int) + 4 - k) % 4 = j := ⟨(((s : Int) + 4 - k) % 4).toNat, by omega⟩
          have hj4 : j < 4 := by omega
          have hjI : (j : Int) < 4 := by omega
          have hj0 : (0 : Int) ≤ (j : Int) := by omega
          have htm : ((s : Int) + 4 - k).tmod 4 = (j : Int) := by rw [Int.tmod_eq_emod_of_nonneg (by omega)]; exact hj
          have wf1 : IntKind.i64.wrap ((s : Int) + 4) = (s : Int) + 4 := IntWalk.i64_in _ (by omega)
          have wf2 : IntKind.i64.wrap ((s : Int) + 4 - k) = (s : Int) + 4 - k := IntWalk.i64_in _ (by omega)
          obtain ⟨b, off, B, C, rfl, _, _, hcw, hrw, hle, hnil⟩ := h.at_ hj4
          have hch := Chg.of_below hb 0 0
          have hcr := box_still hcw hch
          have hrd := hrw.still hch
          have hl1 := hl j hj4
          have htk : Hid (rotTo zss k (s + 1) = rotTo zss k s ++ [zss.getD j []]) := by show _ = _; rw [rotTo, rotRow, hj]; rfl
          have hkz := rotTo_length zss k s
          generalize zss.getD j [] = row at hcr hrd hle hl1 htk
          generalize rotTo zss k s = done at ho htk hkz
          clear hcw hrw
          have hb2 := hbox.out.c2
          have hmd := OwnV.made wr.drew (base := wr.heap.size) (by simp)
          have ka0 := fun o => box_still hb0 (Chg.of_alloc wr o 0 0)
          have ka2 := fun o => box_still hb2 (Chg.of_alloc wr o 0 0)
          have kar := fun o => box_still hcr (Chg.of_alloc wr o 0 0)
          go_wp2
          go_region_law
            (first
              | (refine step_cat rfl (.tmp 23) (.tmp 32) rfl wr.heap.size _ [] (by rfl) hmd lo hi B row.length C row (by rfl) hnil (hrd.still ((Chg.drewN wr 1 0 0).trans (Chg.of_alloc _ _ _ _))) (by simp; omega) (by simp) ?_; intro v1 w3 o1 b1; obtain ⟨D, c1, rfl, hc1, hp1, ow1⟩ := o1.form_at (n := row.length) (by simp); have hg1 : Below wr.heap.size wr w3 := ((Below.refl _ _).drew.alloc (by simp) _).trans b1; have kk1 := box_still hb2 (Chg.of_below hg1 0 0); have kk2 := box_still hb0 (Chg.of_below hg1 0 0); have kk3 := box_still hcr (Chg.of_below hg1 0 0); have kb1 := fun o => box_still kk1 (Chg.of_alloc w3 o 0 0))
              | (refine step_of_wp rfl (wp_pushR (w := wr) (w1 := w3) (.tmp 22) (.tmp 34) rfl (g + 1) v done (by rfl) ho (fun q _ hq => hg1.block q hq) hg1.size D c1 row ow1 hc1 hp1 (by rfl) (by omega) hs3 ?_); intro v2 w4 o2 b2; obtain ⟨A2, c2', rfl, _, _⟩ := o2.own; have HBx := Lib.hid ((hbox.out.below (hg1.mono hs3) hz2).below b2 hz2); have kk4 := HBx.out.c2; have hf2 := HBx.out.f2))
          all_goals
            have e2 : (done ++ [row]).length = s + 1 := by rw [List.length_append, hkz]; rfl
            rw [e2] at o2
            rw [← htk.out] at o2
            have hfin := OwnVR.kept (w' := w4.setCell ⟨g, 0, none⟩ (.slice A2 (s + 1) c2')) o2 (fun q hq _ => Below.heap_setCell _ _ _ _ (by show q ≠ g; omega)) (by simp [World.setCell])
            have hcf := ((Chg.of_below ((hb.trans (hg1.mono hb.size)).trans (b2.mono (by omega))) 0 0).cell (g := g) (i := 0) (v := .slice A2 (s + 1) c2') (by omega)).to_below
            have hsf : g + 1 ≤ (w4.setCell ⟨g, 0, none⟩ (.slice A2 (s + 1) c2')).heap.size := by have := hg1.size; have := b2.size; simp [World.setCell]; omega
            clear o2 b2 hg1 hb ho kk1 kk2 kk3 kk4 kb1 ka0 ka2 kar hb0 hb2 hcr hrd hmd o1 b1 ow1
            go_wp2
            go_roundw
            case rel => exact ⟨s + 1, _, by omega, by go_num, HBx.out.put hz2 _, hfin, hcf, hsf⟩
            case measure => simp [intOf]; omega
        · obtain rfl : s = 4 := by omega
          have hR := rotTo_length zss k 4
          obtain ⟨A2, c2', rfl, hc2, hown⟩ := ho.own
          rw [hR] at hc2 hown hbox
          have hb2 := hbox.out.c2
          have hb1 := hbox.out.c1
          have hf1 := hbox.out.f1
          have hret := fun u => hbox.out.ret u
          have hfin := Lib.hid (hown.chg (w' := wr.setCell ⟨w.heap.size + 1, 0, none⟩ (.slice A2 4 c2')) ((Chg.refl wr (w.heap.size + 1) (w.heap.size + 2)).store (b := w.heap.size + 1) (k := 0) (by omega) (by omega) _) (.inr (by omega)))
          have hcf := Lib.hid ((Chg.of_below hb 0 0).cell (g := w.heap.size + 1) (i := 0) (v := .slice A2 4 c2') (by omega))
          clear hown hb ho
          go_wp2
          (try simp only [Exit.inBlock, Exit.then])
          refine bodyPost_ret (v := .tuple #[.agg #[.slice A2 4 c2'], .int .i64 0]) (by simp [results, Try.results48, go_sem, hret]; try rfl) rfl ?_
          exact ⟨A2, c2', by rw [hR], by rw [hR]; exact hc2, by rw [hR]; exact hfin.out.more (by omega) (by simp [World.setCell]), hcf.out⟩
end Go.Proofs.Ytdfmkikngifjmaa.Lib1
