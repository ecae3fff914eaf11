/- Contracts of the draw of a list that may be no hand, and of DrawHandWith. -/
import Derived.Test.YtgoaikamolcffaaDoorDrawH
namespace Go.Proofs.YtgoaikamolcffaaDoor.Lib1
open Go.RowKit

theorem Plain.nil {A : Option Addr} {c : Nat} (h : Plain A c) : A = none → c = 0 := by
  rcases h with ⟨_, h⟩ | ⟨b, off, h⟩
  · exact fun _ => h
  · intro e; rw [e] at h; cases h
theorem Src.under {w w' : World} {g B : Nat} (h : Src w g) (b : Below B w w') (hg : g < B) : Src w' g := by
  obtain ⟨A, n, cc, a, s, hb, h1, h2, h3, h4, h5⟩ := h
  refine ⟨A, n, cc, a, s, (b.block g hg).trans hb, h1, h2, h3, h4, fun hn => ?_⟩
  obtain ⟨b', off, e, hb', hc⟩ := h5 hn
  refine ⟨b', off, e, hb', fun j hj => ?_⟩
  obtain ⟨x, x0, x1, hx⟩ := hc j hj
  exact ⟨x, x0, x1, by rw [World.cell?_of_block (b.block b' (by omega))]; exact hx⟩
theorem chg_under {w w1 w2 : World} {B lo hi : Nat} (h : Chg w w1 lo hi) (b : Below B w1 w2) (hB : w.heap.size ≤ B) : Chg w w2 lo hi :=
  ⟨b.os.trans h.os, b.tape.trans h.tape, b.output.trans h.output, Nat.le_trans h.size b.size, fun k hk ho => (b.block k (by omega)).trans (h.block k hk ho)⟩
theorem OwnV.single (w : World) {base : Nat} (hb : base ≤ w.heap.size) (z : Int) : OwnV (w.alloc (.cells #[.int .i64 z] 2)) base (.slice (some ⟨w.heap.size, 0, none⟩) 1 1) [z] :=
  ⟨by simp, .inr ⟨w.heap.size, 1, _, rfl, hb, heap_alloc_new w _, Nat.le_refl _, by unfold maxLen; omega, by simp, by simp⟩⟩
theorem OwnV.set0 {w : World} {base b n c : Nat} {zs : List Int} (h : OwnV w base (.slice (some ⟨b, 0, none⟩) n c) zs) (z : Int) : OwnV (w.setCell ⟨b, 0, none⟩ (.int .i64 z)) base (.slice (some ⟨b, 0, none⟩) n c) (zs.set 0 z) := by
  rcases h.2 with ⟨e, _⟩ | ⟨g, cap, cur, hv, hg, hh, h1, h2, h3, h4⟩
  · cases e
  · injection hv with e1 e2 e3
    injection e1 with e1
    injection e1 with e1
    subst e1 e2 e3
    refine ⟨by simp, .inr ⟨b, c, cur.setIfInBounds 0 (.int .i64 z), by rw [List.length_set], hg, block_set (i := 0) hh _, by rw [List.length_set]; exact h1, h2, by simpa using h3, ?_⟩⟩
    rw [List.length_set, Array.toList_setIfInBounds, List.map_set, List.take_set, h4]
theorem Rd.cut {w : World} {lo hi : Nat} {A : Option Addr} {n k : Nat} {zs : List Int} (h : Rd w lo hi A n zs) (hk : k ≤ n) : Rd w lo hi A k (zs.take k) := by
  refine ⟨by simp [h.1]; omega, fun hp => ?_⟩
  obtain ⟨b, off, e, h1, h2, hc⟩ := h.2 (by omega)
  refine ⟨b, off, e, h1, h2, fun j hj => ?_⟩
  rw [hc j (by omega)]
  simp [List.getD, hj]

set_option maxHeartbeats 3200000 in
/-- spec.l01DrawAny -/
theorem l01DrawAny (g : Nat) (w : World) (h : Src w g) :
    Calls Tryd.prog 18 #[.pointer (some ⟨g, 0, none⟩)] w (DrewN g w fun n => n ≤ 15) := by
  have hg := h.lt
  go_enter Tryd.func18, Tryd.ntmps18
  go_wp2_with fail
  refine (l01DrawHand g 13 _ h (by omega) (by omega)).mono ?_
  rintro e w1 ⟨v1, z1, rfl, hl1, o1, s1, k1⟩
  have hl1' : z1.length ≤ 14 := by rw [hl1]; decide
  clear hl1
  go_wp2_with fail
  refine (l01Next g 2 _ s1 (by omega)).mono ?_
  rintro e w2 ⟨r2, rfl, ⟨r20, r21⟩, s2, c2⟩
  have k2 := k1.trans c2
  have o2 := o1.chg c2 hg
  clear o1 s1 k1 c2 r21
  by_cases p0 : r2 = 0
  · subst p0
    clear o2 hl1'
    go_wp2_with fail
    refine (l01Next g 14 _ s2 (by omega)).mono ?_
    rintro e w3 ⟨r3, rfl, ⟨r30, r31⟩, s3, c3⟩
    have r32 := r31 (by omega)
    have k3 := k2.trans c3
    clear s2 k2 c3 r31
    go_wp2_with fail
    refine (l01DrawHand g r3 _ s3 (by omega) (by omega)).mono ?_
    rintro e w4 ⟨v4, z4, rfl, hl4, o4', s4, c4⟩
    have hl4' : z4.length ≤ 14 := by rw [hl4]; omega
    have o4 := o4'.more k3.size
    have k4 := k3.trans c4
    clear hl4 o4' s3 k3 c4
    have hgB : g < w.heap.size := hg
    go_wp2_with fail
    refine (l01Next g 24 _ s4 (by omega)).mono ?_
    rintro e w5 ⟨r5, rfl, ⟨r50, r51⟩, s5, c5⟩
    have o5 := o4.chg c5 hgB
    have k5 := k4.trans c5
    have z5 := k5.size
    clear s4 o4 k4 c5 r51
    obtain ⟨A5, c5, rfl, hc5, hp5, ow5⟩ := o5.form_at rfl
    by_cases q0 : r5 = 0
    · subst q0
      go_wp2_with (at_builtin; refine wpList_push rfl (.tmp 17) (.tmp 18) rfl w.heap.size _ _ rfl o5 51 rfl (by omega) z5 ?_; intro v6 w6 o6 b6)
      go_ret
      exact ⟨_, _, rfl, by simp; omega, o6, s5.under b6 hgB, chg_under k5 b6 (Nat.le_refl _)⟩
    have t0 : (r5 == 0) = false := by simpa using q0
    by_cases q1 : r5 = 1
    · subst q1
      go_wp2_with (at_builtin; refine wpList_push rfl (.tmp 22) (.tmp 23) rfl w.heap.size _ _ rfl o5 52 rfl (by omega) z5 ?_; intro v6 w6 o6 b6)
      go_ret
      exact ⟨_, _, rfl, by simp; omega, o6, s5.under b6 hgB, chg_under k5 b6 (Nat.le_refl _)⟩
    have t1 : (r5 == 1) = false := by simpa using q1
    by_cases q2 : r5 = 2
    · subst q2
      have om := Lib.hid (OwnV.single w5 z5 (-1))
      have zm : w.heap.size ≤ (w5.alloc (.cells #[.int .i64 (-1)] 2)).heap.size := by simp; omega
      have rm := (ow5.rd.still (Chg.of_alloc w5 (.cells #[.int .i64 (-1)] 2) 0 0))
      go_wp2_with (at_builtin; refine wpList_cat rfl (.tmp 27) (.tmp 28) rfl w.heap.size _ [-1] rfl om.out _ _ A5 _ c5 _ rfl hp5.nil rm (by simp; omega) zm ?_; intro v6 w6 o6 b6)
      go_ret
      exact ⟨_, _, rfl, by simp; omega, o6, (s5.still (Chg.of_alloc _ _ 0 0)).under b6 hgB, chg_under (k5.trans (Chg.of_alloc _ _ _ _)) b6 (Nat.le_refl _)⟩
    have t2 : (r5 == 2) = false := by simpa using q2
    by_cases q3 : r5 = 3
    · subst q3
      by_cases hl1 : 1 < z4.length
      · have hl1I : (1 : Int) < ((z4.length : Nat) : Int) := by omega
        obtain ⟨b, cs, rfl, hb1, hb2, hbk, hcs⟩ := ow5.2 (by omega)
        have c0 : w5.cell? ⟨b, 0, none⟩ = some (.int .i64 (z4.getD 0 0)) := by rw [cell_of_row w5 b 0 cs _ _ hbk]; exact hcs 0 (by omega)
        have c1 : w5.cell? ⟨b, 1, none⟩ = some (.int .i64 (z4.getD 1 0)) := by rw [cell_of_row w5 b 1 cs _ _ hbk]; exact hcs 1 (by omega)
        have f0 : w5.frozen? ⟨b, 0, none⟩ = false := by simp [World.frozen?, hbk]
        have o6 := o5.set0 (z4.getD 1 0)
        have s6 := Src_far (i := 0) s5 (show g < b by omega) (.int .i64 (z4.getD 1 0))
        have k6 := chg_new (i := 0) k5 hb1 (.int .i64 (z4.getD 1 0))
        generalize z4.getD 1 0 = y at c1 o6 s6 k6
        generalize z4.getD 0 0 = y' at c0
        clear hbk hcs ow5 o5 s5 k5
        go_wp2_with fail
        go_ret
        exact ⟨_, z4.set 0 y, rfl, by rw [List.length_set]; omega, o6, s6, k6⟩
      · have hl1I : ¬ (1 : Int) < ((z4.length : Nat) : Int) := by omega
        go_wp2_with fail
        go_ret
        exact ⟨_, _, rfl, by omega, o5, s5, k5⟩
    have t3 : (r5 == 3) = false := by simpa using q3
    by_cases q4 : r5 = 4
    · subst q4
      clear o5 ow5
      go_wp2_with fail
      refine (l01Shuffled g _ s5).mono ?_
      rintro e w6 ⟨A6, c6, ys, rfl, hc6, o6, s6, k6⟩
      have hcI : (14 : Int) ≤ (c6 : Int) := by omega
      obtain ⟨b, cs, rfl, _⟩ := o6.2 (by omega)
      have hrd := o6.rd.cut (k := 14) (by omega)
      go_wp2_with fail
      refine (l01Sorted _ 14 c6 _ _ _ _ hrd (by omega)).mono ?_
      rintro e w7 ⟨v7, us, rfl, hl7, o7, b7⟩
      go_wp2_with fail
      go_ret
      exact ⟨_, us, rfl, by omega, o7.more (Nat.le_trans z5 k6.size), s6.below b7, chg_then (k5.trans k6) b7⟩
    have t4 : (r5 == 4) = false := by simpa using q4
    go_wp2_with fail
    go_ret
    exact ⟨_, _, rfl, by omega, o5, s5, k5⟩
  · have t : (r2 == 0) = false := by simpa using p0
    clear p0
    have hgB : g < w.heap.size := hg
    go_wp2_with fail
    refine (l01Next g 24 _ s2 (by omega)).mono ?_
    rintro e w5 ⟨r5, rfl, ⟨r50, r51⟩, s5, c5⟩
    have o5 := o2.chg c5 hgB
    have k5 := k2.trans c5
    have z5 := k5.size
    clear s2 o2 k2 c5 r51
    obtain ⟨A5, c5, rfl, hc5, hp5, ow5⟩ := o5.form_at rfl
    by_cases q0 : r5 = 0
    · subst q0
      go_wp2_with (at_builtin; refine wpList_push rfl (.tmp 17) (.tmp 18) rfl w.heap.size _ _ rfl o5 51 rfl (by omega) z5 ?_; intro v6 w6 o6 b6)
      go_ret
      exact ⟨_, _, rfl, by simp; omega, o6, s5.under b6 hgB, chg_under k5 b6 (Nat.le_refl _)⟩
    have t0 : (r5 == 0) = false := by simpa using q0
    by_cases q1 : r5 = 1
    · subst q1
      go_wp2_with (at_builtin; refine wpList_push rfl (.tmp 22) (.tmp 23) rfl w.heap.size _ _ rfl o5 52 rfl (by omega) z5 ?_; intro v6 w6 o6 b6)
      go_ret
      exact ⟨_, _, rfl, by simp; omega, o6, s5.under b6 hgB, chg_under k5 b6 (Nat.le_refl _)⟩
    have t1 : (r5 == 1) = false := by simpa using q1
    by_cases q2 : r5 = 2
    · subst q2
      have om := Lib.hid (OwnV.single w5 z5 (-1))
      have zm : w.heap.size ≤ (w5.alloc (.cells #[.int .i64 (-1)] 2)).heap.size := by simp; omega
      have rm := (ow5.rd.still (Chg.of_alloc w5 (.cells #[.int .i64 (-1)] 2) 0 0))
      go_wp2_with (at_builtin; refine wpList_cat rfl (.tmp 27) (.tmp 28) rfl w.heap.size _ [-1] rfl om.out _ _ A5 _ c5 _ rfl hp5.nil rm (by simp; omega) zm ?_; intro v6 w6 o6 b6)
      go_ret
      exact ⟨_, _, rfl, by simp; omega, o6, (s5.still (Chg.of_alloc _ _ 0 0)).under b6 hgB, chg_under (k5.trans (Chg.of_alloc _ _ _ _)) b6 (Nat.le_refl _)⟩
    have t2 : (r5 == 2) = false := by simpa using q2
    by_cases q3 : r5 = 3
    · subst q3
      by_cases hl1 : 1 < z1.length
      · have hl1I : (1 : Int) < ((z1.length : Nat) : Int) := by omega
        obtain ⟨b, cs, rfl, hb1, hb2, hbk, hcs⟩ := ow5.2 (by omega)
        have c0 : w5.cell? ⟨b, 0, none⟩ = some (.int .i64 (z1.getD 0 0)) := by rw [cell_of_row w5 b 0 cs _ _ hbk]; exact hcs 0 (by omega)
        have c1 : w5.cell? ⟨b, 1, none⟩ = some (.int .i64 (z1.getD 1 0)) := by rw [cell_of_row w5 b 1 cs _ _ hbk]; exact hcs 1 (by omega)
        have f0 : w5.frozen? ⟨b, 0, none⟩ = false := by simp [World.frozen?, hbk]
        have o6 := o5.set0 (z1.getD 1 0)
        have s6 := Src_far (i := 0) s5 (show g < b by omega) (.int .i64 (z1.getD 1 0))
        have k6 := chg_new (i := 0) k5 hb1 (.int .i64 (z1.getD 1 0))
        generalize z1.getD 1 0 = y at c1 o6 s6 k6
        generalize z1.getD 0 0 = y' at c0
        clear hbk hcs ow5 o5 s5 k5
        go_wp2_with fail
        go_ret
        exact ⟨_, z1.set 0 y, rfl, by rw [List.length_set]; omega, o6, s6, k6⟩
      · have hl1I : ¬ (1 : Int) < ((z1.length : Nat) : Int) := by omega
        go_wp2_with fail
        go_ret
        exact ⟨_, _, rfl, by omega, o5, s5, k5⟩
    have t3 : (r5 == 3) = false := by simpa using q3
    by_cases q4 : r5 = 4
    · subst q4
      clear o5 ow5
      go_wp2_with fail
      refine (l01Shuffled g _ s5).mono ?_
      rintro e w6 ⟨A6, c6, ys, rfl, hc6, o6, s6, k6⟩
      have hcI : (14 : Int) ≤ (c6 : Int) := by omega
      obtain ⟨b, cs, rfl, _⟩ := o6.2 (by omega)
      have hrd := o6.rd.cut (k := 14) (by omega)
      go_wp2_with fail
      refine (l01Sorted _ 14 c6 _ _ _ _ hrd (by omega)).mono ?_
      rintro e w7 ⟨v7, us, rfl, hl7, o7, b7⟩
      go_wp2_with fail
      go_ret
      exact ⟨_, us, rfl, by omega, o7.more (Nat.le_trans z5 k6.size), s6.below b7, chg_then (k5.trans k6) b7⟩
    have t4 : (r5 == 4) = false := by simpa using q4
    go_wp2_with fail
    go_ret
    exact ⟨_, _, rfl, by omega, o5, s5, k5⟩

/-- A list and a number are drawn. -/
def DrewSI (w : World) (e : Ending) (w' : World) : Prop :=
  ∃ A c zs x, e = .returned (.tuple #[.slice A zs.length c, .int .i64 x]) ∧ zs.length ≤ 15 ∧ zs.length ≤ c ∧ Plain A c ∧ Own w' w.heap.size w'.heap.size A zs.length zs ∧ Below w.heap.size w w'


set_option maxHeartbeats 400000 in
/-- laws.likeInts of two slices that read alike -/
theorem likeInts (A B : Option Addr) (n m c d : Nat) (zs : List Int) (lo hi lo' hi' : Nat) (w : World) (h : Rd w lo hi A n zs) (h' : Rd w lo' hi' B m zs) (hn : n ≤ 1048576) :
    Calls Tryd.prog 10 #[.slice A n c, .slice B m d] w fun e w' => e = .returned (.bool true) ∧ Chg w w' 0 0 := by
  obtain rfl : m = n := by rw [← h.1, ← h'.1]
  go_enter Tryd.func10, Tryd.ntmps10
  go_wp2
  go_loopw [5] (fun i wr => ∃ k q : Nat, k ≤ m ∧ i = .int .i64 k ∧ wr = w.drewN q) (fun i _ => m - (intOf i).toNat)
  case atStart => exact ⟨0, 0, Nat.zero_le _, rfl, rfl⟩
  case round =>
    obtain ⟨k, q, hk, rfl, rfl⟩ := hrel
    by_cases hlt : k < m
    · obtain ⟨b, off, rfl, _, _, hc⟩ := h.2 (by omega)
      obtain ⟨b', off', rfl, _, _, hc'⟩ := h'.2 (by omega)
      have hck := hc k hlt
      have hck' := hc' k hlt
      generalize zs.getD k 0 = z at hck hck'
      have hkl : (k : Int) < (m : Int) := by omega
      clear hc hc'
      go_wp2
      go_quiet (fail)
      go_wp2
      go_roundw
      case rel => exact ⟨k + 1, _, by omega, by go_num, rfl⟩
      case measure => simp [intOf]; omega
    · go_wp2
      go_ret
      exact ⟨rfl, Chg.drewN _ _ _ _⟩

end Go.Proofs.YtgoaikamolcffaaDoor.Lib1
