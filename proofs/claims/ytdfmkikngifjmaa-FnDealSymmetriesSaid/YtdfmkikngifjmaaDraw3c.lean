/- Chapter 3: the draws of a list of suits, of a deal with such a list. -/
import Derived.Test.YtdfmkikngifjmaaDraw3b
namespace Go.Proofs.Ytdfmkikngifjmaa.Lib1
open Go.RowKit
set_option maxRecDepth 100000

/-- The numbers ys lie in block b, all of it. -/
def Full (w : World) (b : Nat) (ys : List Int) : Prop := w.heap[b]? = some (.cells (ys.map (Value.int .i64)).toArray 2 (0, 0))
theorem Full.cell {w : World} {b : Nat} {ys : List Int} (h : Full w b ys) {j : Nat} (hj : j < ys.length) : w.cell? ⟨b, j, none⟩ = some (.int .i64 (ys.getD j 0)) ∧ w.frozen? ⟨b, j, none⟩ = false := by
  refine ⟨?_, by simp [World.frozen?, show w.heap[b]? = _ from h]⟩
  rw [cell_of_row _ _ _ _ _ _ h]
  simp [List.getElem?_eq_getElem hj, List.getD]
theorem Full.set {w : World} {b i : Nat} {ys : List Int} (h : Full w b ys) (z : Int) : Full (w.setCell ⟨b, i, none⟩ (.int .i64 z)) b (ys.set i z) := by
  unfold Full at h ⊢
  have e : (w.setCell ⟨b, i, none⟩ (.int .i64 z)).heap[b]? = some (.cells ((ys.map (Value.int .i64)).toArray.setIfInBounds i (.int .i64 z)) 2 (0, 0)) := by simp [World.setCell, Array.getElem?_modify, h]
  rw [e, List.map_set, List.setIfInBounds_toArray]
theorem Full.own {w : World} {b base n : Nat} {ys : List Int} (h : Full w b ys) (hb : base ≤ b) (hn : ys.length = n) (hm : n ≤ 1048576) : OwnV w base (.slice (some ⟨b, 0, none⟩) n n) ys := by
  subst hn
  exact ⟨by simp, .inr ⟨b, ys.length, _, rfl, hb, h, Nat.le_refl _, by unfold maxLen; omega, by simp, by simpa using List.take_of_length_le (l := ys.map (Value.int .i64)) (i := ys.length) (by simp)⟩⟩
/-- A list of suits was drawn. -/
def DrewO (g : Nat) (w : World) (e : Ending) (w' : World) : Prop := ∃ ys, e = .returned (.slice (some ⟨w.heap.size, 0, none⟩) 4 4) ∧ ys.length = 4 ∧ Full w' w.heap.size ys ∧ Src w' g ∧ Chg w w' g (g + 1)

set_option maxHeartbeats 1600000 in
/-- spec.l03DrawOrder -/
theorem l03DrawOrder (g : Nat) (w : World) (h : Src w g) : Calls Try.prog 104 #[.pointer (some ⟨g, 0, none⟩)] w (DrewO g w) := by
  have hg := h.lt
  have hF := Lib.hid (show Full (w.alloc (.cells #[.int .i64 0, .int .i64 1, .int .i64 2, .int .i64 3] 2)) w.heap.size [0, 1, 2, 3] from heap_alloc_new w _)
  have ca := Lib.hid (Chg.of_alloc w (.cells #[.int .i64 0, .int .i64 1, .int .i64 2, .int .i64 3] 2) 0 0)
  have hS := Lib.hid (h.still ca.out)
  go_enter Try.func104, Try.ntmps104
  go_wp2
  go_loopw [4] (fun i wr => ∃ (q : Nat) (ys : List Int), q ≤ 3 ∧ i = .int .i64 q ∧ Hid (ys.length = 4) ∧ Hid (Full wr w.heap.size ys) ∧ Src wr g ∧ Hid (Chg w wr g (g + 1))) (fun i _ => (intOf i).toNat)
  case atStart => exact ⟨3, [0, 1, 2, 3], by omega, rfl, rfl, hF.out, hS.out, ca.out.any _ _⟩
  case round =>
    obtain ⟨q, ys, hq, rfl, hl, hfu, hs2, hc2⟩ := hrel
    by_cases hq0 : 0 < q
    · have hq0I : (0 : Int) < (q : Int) := by omega
      go_wp2_with fail
      refine (l01Next g ((q : Int) + 1) _ hs2 (by omega)).mono ?_
      rintro e w3 ⟨r, rfl, ⟨r0, r1⟩, hs3, hc3⟩
      have r2 := r1 (by omega)
      obtain ⟨p, rfl⟩ : ∃ p : Nat, r = p := ⟨r.toNat, by omega⟩
      have hp3 : p ≤ 3 := by omega
      have hF3 := Lib.hid (show Full w3 w.heap.size ys from (hc3.block _ (lt_of_block hfu.out) (.inr (by omega))).trans hfu.out)
      have hl4 := hl.out
      have cq := (hF3.out.cell (j := q) (by omega)).1
      have fq := (hF3.out.cell (j := q) (by omega)).2
      have cp := (hF3.out.cell (j := p) (by omega)).1
      have fp := (hF3.out.cell (j := p) (by omega)).2
      have hset := Lib.hid ((hF3.out.set (i := q) (ys.getD p 0)).set (i := p) (ys.getD q 0))
      have hsl : Hid (((ys.set q (ys.getD p 0)).set p (ys.getD q 0)).length = 4) := by show _ = _; simp [hl4]
      have hch := Lib.hid (hc2.out.trans hc3)
      have hqI : (q : Int) < 4 := by omega
      have hpI : (p : Int) < 4 := by omega
      clear hl4 hs2 hc2 hc3 r1 r2 r0 hfu
      generalize (ys.set q (ys.getD p 0)).set p (ys.getD q 0) = ys2 at hset hsl
      generalize ys.getD q 0 = y at cq hset
      generalize ys.getD p 0 = y' at cp hset
      have hsr : Hid (Src ((w3.setCell ⟨w.heap.size, q, none⟩ (.int .i64 y')).setCell ⟨w.heap.size, p, none⟩ (.int .i64 y)) g) := Src_far (i := p) (Src_far (i := q) hs3 hg _) hg _
      have hchg : Hid (Chg w ((w3.setCell ⟨w.heap.size, q, none⟩ (.int .i64 y')).setCell ⟨w.heap.size, p, none⟩ (.int .i64 y)) g (g + 1)) := chg_new (chg_new hch.out (Nat.le_refl _) _) (Nat.le_refl _) _
      by_cases hpq : p = q
      · subst hpq
        obtain rfl : y' = y := by rw [cq] at cp; injection cp with cp; injection cp with _ cp; exact cp.symm
        clear cp fp
        go_wp2_with fail
        go_roundw
        case rel => exact ⟨p - 1, ys2, by omega, by rw [show ((p - 1 : Nat) : Int) = (p : Int) - 1 by omega], hsl, hset, hsr.out, hchg⟩
        case measure => simp [intOf]; omega
      · go_wp2_with fail
        go_roundw
        case rel => exact ⟨q - 1, ys2, by omega, by rw [show ((q - 1 : Nat) : Int) = (q : Int) - 1 by omega], hsl, hset, hsr.out, hchg⟩
        case measure => simp [intOf]; omega
    · have hq0I : ¬ (0 : Int) < (q : Int) := by omega
      go_wp2_with fail
      go_ret
      exact ⟨ys, rfl, hl.out, hfu.out, hs2, hc2.out⟩

/-- A deal and a list of suits were drawn. -/
def DrewDS (w : World) (e : Ending) (w' : World) : Prop :=
  ∃ A n c zss T m d to, e = .returned (.tuple #[.agg #[.slice A n c], .slice T m d]) ∧ n ≤ 4 ∧ RdR w' w.heap.size w'.heap.size A n zss ∧ Rows15 zss ∧ m ≤ 5 ∧ Rd w' w.heap.size w'.heap.size T m to ∧ Below w.heap.size w w'
theorem ds_end {w W : World} {A T : Option Addr} {n c m d : Nat} {zss : List (List Int)} {to : List Int} {V : Value} (hn : n ≤ 4) (rd : RdR W (w.heap.size + 1) W.heap.size A n zss) (h15 : Rows15 zss) (hm : m ≤ 5) (rt : Rd W (w.heap.size + 1) W.heap.size T m to) (b : Below w.heap.size w W) :
    DrewDS w (.returned (.tuple #[.agg #[.slice A n c], .slice T m d])) (W.setCell ⟨w.heap.size, 0, none⟩ V) := by
  have st : Chg W (W.setCell ⟨w.heap.size, 0, none⟩ V) w.heap.size (w.heap.size + 1) := (Chg.refl _ _ _).store (Nat.le_refl _) (by show w.heap.size < w.heap.size + 1; omega) _
  exact ⟨A, n, c, zss, T, m, d, to, rfl, hn, (rd.chg st (.inr (Nat.le_refl _))).more (by omega) st.size, h15, hm, (rt.chg st (.inr (Nat.le_refl _))).more (by omega) st.size, Below.setAt b (Nat.le_refl _)⟩
theorem Full.rd {w : World} {b lo n : Nat} {ys : List Int} (h : Full w b ys) (hlo : lo ≤ b) (hn : n ≤ ys.length) : Rd w lo w.heap.size (some ⟨b, 0, none⟩) n (ys.take n) := by
  refine ⟨by simp; omega, fun _ => ⟨b, 0, rfl, hlo, lt_of_block h, fun j hj => ?_⟩⟩
  rw [Nat.zero_add, (h.cell (j := j) (by omega)).1]
  simp [List.getD, hj]
theorem Full.far {w w' : World} {b g : Nat} {ys : List Int} (h : Full w b ys) (c : Chg w w' g (g + 1)) (hb : b ≠ g) : Full w' b ys := (c.block b (lt_of_block h) (by omega)).trans h

set_option maxHeartbeats 4000000 in
theorem DrawPermuteSuits (A : Option Addr) (n c : Nat) (w : World) (h : Bytes w A n) (hn : n ≤ 1048576) : Calls Try.prog 56 #[.slice A n c] w (DrewDS w) := by
  have ca := Lib.hid (Chg.of_alloc w (.cells #[.slice none 0 0] 25) 0 0)
  have R0 := Lib.hid (BoxAt.new w (.slice none 0 0) 25 rfl)
  have hB0 := Lib.hid (h.chg (ca.out.any w.heap.size w.heap.size))
  have hz0 : Hid ((w.alloc (.cells #[.slice none 0 0] 25)).heap.size = w.heap.size + 1) := by show _ = _; simp
  go_enter Try.func56, Try.ntmps56
  go_wp2_with fail
  generalize w.alloc (.cells #[.slice none 0 0] 25) = w0 at ca R0 hB0 hz0
  refine (l01From A n c _ hB0.out hn).mono ?_
  rintro e w1 ⟨rfl, s1, b1⟩
  generalize hgq : w0.heap.size = g at s1 b1
  have hg : Hid (g = w.heap.size + 1) := by show _ = _; rw [← hgq]; exact hz0.out
  have R1 := Lib.hid (show BoxAt w1 w.heap.size (.slice none 0 0) 25 from (b1.block _ (by have := hg.out; omega)).trans R0.out)
  have B1 := Lib.hid ((ca.out.to_below).trans (b1.mono (by have := hg.out; omega)))
  have l1 := Lib.hid s1.lt
  clear R0 hB0 b1 ca hz0
  have HG := Lib.hid hgq
  clear hgq
  go_wp2_with fail
  refine (l03DrawAny g _ s1).mono ?_
  rintro e w2 ⟨A2, n2, c2, zss, rfl, hn2, _, rd2, h15, s2, k2⟩
  have R2 := Lib.hid (R1.out.far k2 (by have := hg.out; omega))
  have B2 := Lib.hid (Chg.above B1.out k2 B1.out.size (.inl (by have := hg.out; omega)))
  have RD2 := Lib.hid rd2
  have z2 := Lib.hid k2.size
  have ca3 := Lib.hid (Chg.of_alloc w2 (.cells #[.slice A2 n2 c2] 25) 0 0)
  have Q3 := Lib.hid (BoxAt.new w2 (.slice A2 n2 c2) 25 rfl)
  have R3 := Lib.hid (R2.out.still ca3.out)
  have B3 := Lib.hid (B2.out.trans (ca3.out.to_below.mono B2.out.size))
  have RD3 := Lib.hid (RD2.out.still ca3.out)
  have s3 := s2.still ca3.out
  have H15 := Lib.hid h15
  have hz3 : Hid ((w2.alloc (.cells #[.slice A2 n2 c2] 25)).heap.size = w2.heap.size + 1) := by show _ = _; simp
  clear s1 rd2 h15 s2 k2 R1 B1 R2 RD2
  go_wp2_with fail
  generalize w2.alloc (.cells #[.slice A2 n2 c2] 25) = w3 at ca3 Q3 R3 B3 RD3 s3 hz3
  refine (l03DrawOrder g _ s3).mono ?_
  rintro e w4 ⟨ys, rfl, hys, fu4, s4, k4⟩
  have Q4 := Lib.hid (Q3.out.far k4 (by have := z2.out; have := l1.out; omega))
  have R4 := Lib.hid (R3.out.far k4 (by have := hg.out; omega))
  have B4 := Lib.hid (Chg.above B3.out k4 B3.out.size (.inl (by have := hg.out; omega)))
  have RD4 := Lib.hid (RD3.out.chg k4 (.inr (by have := l1.out; omega)))
  have FU4 := Lib.hid fu4
  have z4 := Lib.hid k4.size
  generalize htb : w3.heap.size = tb at FU4 fu4
  have HTB := Lib.hid htb
  clear htb s3 fu4 k4 Q3 R3 B3 RD3 B2 ca3
  go_wp2_with fail
  refine (l01Next g 16 _ s4 (by omega)).mono ?_
  rintro e w5 ⟨r, rfl, _, s5, k5⟩
  have htq : Hid (w2.heap.size + 1 ≤ tb) := by show _ ≤ _; have := hz3.out; have := HTB.out; omega
  have Q5 := Lib.hid (Q4.out.far k5 (by have := z2.out; have := l1.out; omega))
  have R5 := Lib.hid (R4.out.far k5 (by have := hg.out; omega))
  have B5 := Lib.hid (Chg.above B4.out k5 B4.out.size (.inl (by have := hg.out; omega)))
  have RD5 := Lib.hid ((RD4.out.chg k5 (.inr (by have := l1.out; omega))))
  have F5 := Lib.hid (FU4.out.far k5 (by have := htq.out; have := z2.out; have := l1.out; omega))
  have z5 := Lib.hid k5.size
  have hlt5 := Lib.hid (lt_of_block F5.out)
  have hlo : Hid (w.heap.size + 1 ≤ w1.heap.size) := by show _ ≤ _; have := l1.out; have := hg.out; omega
  have RF := Lib.hid (RD5.out.more (lo' := w.heap.size + 1) (hi' := w5.heap.size) hlo.out (by have := htq.out; have := hlt5.out; omega))
  have hwq : Hid (w.heap.size ≠ w2.heap.size) := by show _ ≠ _; have := hlo.out; have := z2.out; omega
  have hys4 := Lib.hid hys
  clear s4 k5 Q4 R4 B4 RD4 FU4 hys
  have pQ := Q5.out.c
  have pR := R5.out.c
  have fR := R5.out.f
  have hret := fun u => R5.out.ret u
  by_cases q0 : r = 0
  · subst q0
    have hfin := Lib.hid (ds_end (c := c2) (d := 4) (V := .slice A2 n2 c2) hn2 RF.out H15.out (by omega : 3 ≤ 5) (F5.out.rd (n := 3) (lo := w.heap.size + 1) (by have := htq.out; have := z2.out; have := hlo.out; omega) (by have := hys4.out; omega)) B5.out)
    go_wp2_with fail
    (try simp only [Exit.inBlock, Exit.then])
    refine bodyPost_ret (v := .tuple #[.agg #[.slice A2 n2 c2], .slice (some ⟨tb, 0, none⟩) 3 4]) (by simp [results, Try.results56, go_sem, hret]; try rfl) rfl ?_
    exact hfin.out
  have t0 : (r == 0) = false := by simpa using q0
  by_cases q1 : r = 1
  · subst q1
    have c1 := (F5.out.cell (j := 1) (by have := hys4.out; omega)).1
    have c0 := (F5.out.cell (j := 0) (by have := hys4.out; omega)).1
    have f0 := (F5.out.cell (j := 0) (by have := hys4.out; omega)).2
    have fs := Lib.hid (F5.out.set (i := 0) (ys.getD 1 0))
    have stc : Hid (Chg w5 (w5.setCell ⟨tb, 0, none⟩ (.int .i64 (ys.getD 1 0))) tb (tb + 1)) := (Chg.refl _ _ _).store (Nat.le_refl _) (by show tb < tb + 1; omega) _
    have hqt : Hid (w2.heap.size ≠ tb) := by show _ ≠ _; have := htq.out; omega
    have hwt : Hid (w.heap.size ≠ tb) := by show _ ≠ _; have := htq.out; have := hlo.out; have := z2.out; omega
    have pQ1 := fun u => (Q5.out.set (g := tb) (i := 0) (u := u) hqt.out).c
    have pR1 := fun u => (R5.out.set (g := tb) (i := 0) (u := u) hwt.out).c
    have fR1 := fun u => (R5.out.set (g := tb) (i := 0) (u := u) hwt.out).f
    have hret1 := fun u v => (R5.out.set (g := tb) (i := 0) (u := u) hwt.out).ret v
    have hfin := Lib.hid (ds_end (c := c2) (d := 4) (V := .slice A2 n2 c2) hn2 (((RD5.out.chg stc.out (.inl (by have := htq.out; omega))).more (lo' := w.heap.size + 1) (hi' := (w5.setCell ⟨tb, 0, none⟩ (.int .i64 (ys.getD 1 0))).heap.size) hlo.out (by have := htq.out; have := hlt5.out; simp [World.setCell]; omega))) H15.out (by omega : 4 ≤ 5) (fs.out.rd (n := 4) (lo := w.heap.size + 1) (by have := htq.out; have := z2.out; have := hlo.out; omega) (by have := hys4.out; simp; omega)) (Below.setAt (i := 0) B5.out (by have := htq.out; have := z2.out; have := hlo.out; omega)))
    generalize ys.getD 1 0 = y1 at c1 fs hfin stc
    generalize ys.getD 0 0 = y0 at c0
    go_wp2_with fail
    (try simp only [Exit.inBlock, Exit.then])
    refine bodyPost_ret (v := .tuple #[.agg #[.slice A2 n2 c2], .slice (some ⟨tb, 0, none⟩) 4 4]) (by simp [results, Try.results56, go_sem, hret1]; try rfl) rfl ?_
    exact hfin.out
  have t1 : (r == 1) = false := by simpa using q1
  by_cases q2 : r = 2
  · subst q2
    have ow := F5.out.own (base := tb) (n := 4) (Nat.le_refl _) hys4.out (by omega)
    have hbt : tb ≤ w5.heap.size := Nat.le_of_lt hlt5.out
    go_wp2_with (at_builtin; refine wpList_push rfl (.tmp 28) (.tmp 29) rfl tb _ _ rfl ow 0 rfl (by have := hys4.out; omega) hbt ?_; intro v6 w6 o6 b6; have Q6 : BoxAt w6 w2.heap.size (.slice A2 n2 c2) 25 := (b6.block _ (by have := htq.out; omega)).trans Q5.out; have pQ6 := Q6.c; have R6 : BoxAt w6 w.heap.size (.slice none 0 0) 25 := (b6.block _ (by have := htq.out; have := hlo.out; have := z2.out; omega)).trans R5.out; have pR6 := R6.c; have fR6 := R6.f)
    have hret6 := fun u => R6.ret u
    obtain ⟨A6, c6, rfl, hc6, _, ow6⟩ := o6.form_at (n := 5) (by simp [hys4.out])
    have hfin := Lib.hid (ds_end (c := c2) (d := c6) (V := .slice A2 n2 c2) hn2 ((RD5.out.below b6 (by have := htq.out; omega)).more (lo' := w.heap.size + 1) (hi' := w6.heap.size) hlo.out (by have := b6.size; have := htq.out; have := hlt5.out; omega)) H15.out (Nat.le_refl 5) (ow6.rd.more (lo' := w.heap.size + 1) (by have := htq.out; have := z2.out; have := hlo.out; omega) (Nat.le_refl _)) (B5.out.trans (b6.mono (by have := htq.out; have := z2.out; have := hlo.out; omega))))
    (try go_wp2_with fail)
    (try simp only [Exit.inBlock, Exit.then])
    refine bodyPost_ret (v := .tuple #[.agg #[.slice A2 n2 c2], .slice A6 5 c6]) (by simp [results, Try.results56, go_sem, hret6]; try rfl) rfl ?_
    exact hfin.out
  have t2 : (r == 2) = false := by simpa using q2
  clear q0 q1 q2
  have hfin := Lib.hid (ds_end (c := c2) (d := 4) (V := .slice A2 n2 c2) hn2 RF.out H15.out (by omega : 4 ≤ 5) (F5.out.rd (n := 4) (lo := w.heap.size + 1) (by have := htq.out; have := z2.out; have := hlo.out; omega) (by have := hys4.out; omega)) B5.out)
  go_wp2_with fail
  (try simp only [Exit.inBlock, Exit.then])
  refine bodyPost_ret (v := .tuple #[.agg #[.slice A2 n2 c2], .slice (some ⟨tb, 0, none⟩) 4 4]) (by simp [results, Try.results56, go_sem, hret]; try rfl) rfl ?_
  exact hfin.out

end Go.Proofs.Ytdfmkikngifjmaa.Lib1
