/- Chapter 3: the model's l03DrawAny. -/
import Derived.Test.YteglffbeldlibaaDraw3a
import Derived.Deep.RegionHeld3
namespace Go.Proofs.Yteglffbeldlibaa.Lib1
open Go.RowKit
set_option maxRecDepth 100000

theorem BoxAt.far {w w' : World} {p g : Nat} {v : Value} {t : TypeId} (h : BoxAt w p v t) (c : Chg w w' g (g + 1)) (hp : p ≠ g) : BoxAt w' p v t := (c.block p h.lt (by omega)).trans h

theorem box_ne {w : World} {q b off : Nat} {v : Value} {z : Int} {t : TypeId} (hb : BoxAt w q v t) (hv : ∀ z, v ≠ .int .i64 z) (hc : w.cell? ⟨b, off, none⟩ = some (.int .i64 z)) : b ≠ q := by
  rintro rfl
  rw [cell_of_row _ _ _ _ _ _ hb] at hc
  match off, hc with
  | 0, hc => simp at hc; exact hv z hc
  | n + 1, hc => simp at hc
theorem Rd.box {w : World} {lo hi q n : Nat} {A : Option Addr} {zs : List Int} {v : Value} {t : TypeId} (h : Rd w lo hi A n zs) (hb : BoxAt w q v t) (hv : ∀ z, v ≠ .int .i64 z) (u : Value) : Rd (w.setCell ⟨q, 0, none⟩ u) lo hi A n zs := by
  refine ⟨h.1, fun hn => ?_⟩
  obtain ⟨b, off, e, l1, l2, hc⟩ := h.2 hn
  have hne := box_ne hb hv (hc 0 hn)
  exact ⟨b, off, e, l1, l2, fun j hj => by rw [World.cell?_of_block (Below.heap_setCell _ _ _ _ hne)]; exact hc j hj⟩
theorem HalfR.box {w : World} {lo b q : Nat} {zss : List (List Int)} {v : Value} {t : TypeId} (r : HalfR w lo b zss) (hb : BoxAt w q v t) (hv : ∀ z, v ≠ .int .i64 z) (hbq : b ≠ q) (u : Value) : HalfR (w.setCell ⟨q, 0, none⟩ u) lo b zss := by
  obtain ⟨hz, l1, l2, cs, B, C, hbk, hcs, hr⟩ := r
  have hsz : (w.setCell ⟨q, 0, none⟩ u).heap.size = w.heap.size := by simp [World.setCell]
  exact ⟨hz, l1, by rw [hsz]; exact l2, cs, B, C, (Below.heap_setCell _ _ _ _ hbq).trans hbk, hcs, fun j hj => ⟨by rw [hsz]; exact (hr j hj).1.box hb hv u, (hr j hj).2⟩⟩
theorem any_end {g n c : Nat} {w W : World} {A : Option Addr} {zss : List (List Int)} {V : Value} (hg : g < w.heap.size) (hn : n ≤ 4) (hc : n ≤ c) (rd : RdR W (w.heap.size + 1) W.heap.size A n zss) (h15 : Rows15 zss) (s : Src W g) (k : Chg w W g (g + 1)) :
    DrewAny g w (.returned (.agg #[.slice A n c])) (W.setCell ⟨w.heap.size, 0, none⟩ V) := by
  have st : Chg W (W.setCell ⟨w.heap.size, 0, none⟩ V) w.heap.size (w.heap.size + 1) := (Chg.refl _ _ _).store (Nat.le_refl _) (by show w.heap.size < w.heap.size + 1; omega) _
  exact ⟨A, n, c, zss, rfl, hn, hc, (rd.chg st (.inr (Nat.le_refl _))).more (by omega) st.size, h15, s.chg st (.inl hg), chg_new k (Nat.le_refl _) _⟩
theorem DrewAny.drew {g : Nat} {w W : World} {e : Ending} (h : DrewAny g w e W) : DrewAny g w e W.drew := by
  obtain ⟨A, n, c, zss, e1, hn, hc, rd, h15, s, k⟩ := h
  have d := Chg.drewN W 1 0 0
  exact ⟨A, n, c, zss, e1, hn, hc, rd.still d, h15, s.still d, k.trans (d.any _ _)⟩
theorem cell_other (w : World) (b i j : Nat) (u : Value) (h : i ≠ j) : (w.setCell ⟨b, i, none⟩ u).cell? ⟨b, j, none⟩ = w.cell? ⟨b, j, none⟩ := by
  unfold World.setCell World.cell?
  simp only [Array.getElem?_modify, if_true]
  cases w.heap[b]? with
  | none => rfl
  | some o => cases o <;> simp [h]
theorem slice_no {A : Option Addr} {n c : Nat} : ∀ z, Value.slice A n c ≠ .int .i64 z := fun z e => by cases e

set_option maxHeartbeats 8000000 in
theorem l03DrawAny (g : Nat) (w : World) (h : Src w g) : Calls Try.prog 115 #[.pointer (some ⟨g, 0, none⟩)] w (DrewAny g w) := by
  have hg := h.lt
  have ca := Lib.hid (Chg.of_alloc w (.cells #[.slice none 0 0] 26) 0 0)
  have R0 := Lib.hid (BoxAt.new w (.slice none 0 0) 26 rfl)
  have hs0 := Lib.hid (h.still ca.out)
  have hz0 : Hid ((w.alloc (.cells #[.slice none 0 0] 26)).heap.size = w.heap.size + 1) := by show _ = _; simp
  go_enter Try.func115, Try.ntmps115
  go_wp2_with fail
  generalize w.alloc (.cells #[.slice none 0 0] 26) = w0 at ca R0 hs0 hz0
  refine (l03Draw g 13 _ hs0.out (by omega)).mono ?_
  rintro e w1 ⟨b, c, zss, rfl, hc4, hcm, o1, hrow, s1, c1⟩
  have hb1 := Lib.hid ((HalfR.of_own (o1.more (by have := hz0.out; omega) (Nat.le_refl _) : OwnR w1 (w.heap.size + 1) w1.heap.size _ 4 zss)))
  have h15 := Lib.hid (rows15_of o1.1 (by omega) hrow)
  have R1 := Lib.hid (R0.out.far c1 (by omega))
  have k1 := Lib.hid ((ca.out.any g (g + 1)).trans c1)
  have z1 := Lib.hid (show w.heap.size + 1 ≤ w1.heap.size by have := c1.size; have := hz0.out; omega)
  have HS1 := Lib.hid s1
  clear o1 hrow s1 c1 hs0 R0
  have ca2 := Lib.hid (Chg.of_alloc w1 (.cells #[.slice (some ⟨b, 0, none⟩) 4 c] 26) 0 0)
  have Q2 := Lib.hid (BoxAt.new w1 (.slice (some ⟨b, 0, none⟩) 4 c) 26 rfl)
  have R2 := Lib.hid (R1.out.still ca2.out)
  have k2 := Lib.hid (k1.out.trans (ca2.out.any g (g + 1)))
  have s2 := HS1.out.still ca2.out
  have H2 := Lib.hid (hb1.out.chg ca2.out (Nat.zero_le _))
  have hbq : Hid (b ≠ w1.heap.size) := by show _ ≠ _; have := hb1.out.2.2.1; omega
  go_wp2_with fail
  generalize w1.alloc (.cells #[.slice (some ⟨b, 0, none⟩) 4 c] 26) = w2 at ca2 Q2 R2 k2 s2 H2
  refine (l01Next g 2 _ s2 (by omega)).mono ?_
  rintro e w3 ⟨r3, rfl, ⟨r30, _⟩, s3, c3⟩
  generalize hq : w1.heap.size = q at Q2 hbq z1
  have hqg := Lib.hid (show w.heap.size + 1 ≤ q from z1.out)
  have R3 := Lib.hid (R2.out.far c3 (by omega))
  have Q3 := Lib.hid (Q2.out.far c3 (by have := hqg.out; omega))
  have k3 := Lib.hid (k2.out.trans c3)
  have H3 := Lib.hid (H2.out.chg c3 (by omega))
  clear s2 c3 ca2 Q2 R2 k2 H2 hq z1 R1 k1 hb1 HS1 ca hz0
  by_cases p0 : r3 = 0
  · subst p0
    go_wp2_with fail
    refine (l01Next g 8 _ s3 (by omega)).mono ?_
    rintro e w4 ⟨r4, rfl, ⟨r40, r41⟩, s4, c4⟩
    obtain ⟨nn, rfl⟩ : ∃ nn : Nat, r4 = nn := ⟨r4.toNat, by omega⟩
    have hnn : nn ≤ 13 := by have := r41 (by omega); omega
    have R4 := Lib.hid (R3.out.far c4 (by omega))
    have Q4 := Lib.hid (Q3.out.far c4 (by have := hqg.out; omega))
    have k4 := Lib.hid (k3.out.trans c4)
    clear s3 c4 r40 r41 R3 Q3 k3 H3 hbq h15
    go_wp2_with fail
    refine (l03Draw g nn _ s4 hnn).mono ?_
    rintro e w5 ⟨b5, c5, zss5, rfl, hc5, hcm5, o5, hrow5, s5, c5'⟩
    have R5 := Lib.hid (R4.out.far c5' (by omega))
    have Q5 := Lib.hid (Q4.out.far c5' (by have := hqg.out; omega))
    have k5 := Lib.hid (k4.out.trans c5')
    have z4 := Lib.hid (show w.heap.size + 1 ≤ w4.heap.size by have := Q4.out.lt; have := hqg.out; omega)
    have H5 := Lib.hid (HalfR.of_own (o5.more z4.out (Nat.le_refl _) : OwnR w5 (w.heap.size + 1) w5.heap.size _ 4 zss5))
    have hbq : Hid (b5 ≠ q) := by
      show _ ≠ _
      obtain ⟨b', e, l1, _⟩ := o5.addr (by omega)
      have e1 : b5 = b' := by injection e with e; injection e
      have := Q4.out.lt
      omega
    have h15 := Lib.hid (rows15_of o5.1 (by omega) hrow5)
    have pQ5 := Q5.out.c
    have fQ5 := Q5.out.f
    have hqw5 : Hid (w.heap.size ≠ q) := by show _ ≠ _; have := hqg.out; omega
    have Q3 : Hid (BoxAt (w5.setCell ⟨q, 0, none⟩ (.slice (some ⟨b5, 0, none⟩) 4 c5)) q (.slice (some ⟨b5, 0, none⟩) 4 c5) 26) := by show _ = _; have := Q5.out; unfold BoxAt at this; simp [World.setCell, Array.getElem?_modify, this]
    have R3 := Lib.hid (R5.out.set (g := q) (i := 0) (u := .slice (some ⟨b5, 0, none⟩) 4 c5) hqw5.out)
    have k3 := Lib.hid (chg_new (i := 0) (b := q) k5.out (by have := hqg.out; omega) (.slice (some ⟨b5, 0, none⟩) 4 c5))
    have H3 := Lib.hid (H5.out.box Q5.out slice_no hbq.out (.slice (some ⟨b5, 0, none⟩) 4 c5))
    have s3 := Src_far (i := 0) (b := q) s5 (by have := hqg.out; omega) (.slice (some ⟨b5, 0, none⟩) 4 c5)
    clear R4 Q4 k4 o5 hrow5 s5 c5' R5 Q5 k5 H5 hqw5 z4 s4
    go_wp2_with fail
    generalize w5.setCell ⟨q, 0, none⟩ (.slice (some ⟨b5, 0, none⟩) 4 c5) = w3 at Q3 R3 k3 H3 s3
    clear hcm5 pQ5 fQ5 hc4 hcm
    revert b5 c5 zss5 hc5 hbq h15 Q3 R3 k3 H3 s3
    intro b c zss hc4 hbq h15 Q3 R3 k3 H3 s3
    refine (l01Next g 4 _ s3 (by omega)).mono ?_
    rintro e w6 ⟨r6, rfl, ⟨r60, r61⟩, s6, c6⟩
    obtain ⟨kk, rfl⟩ : ∃ kk : Nat, r6 = kk := ⟨r6.toNat, by omega⟩
    have hkk : kk < 4 := by have := r61 (by omega); omega
    have hkI : (kk : Int) < 4 := by omega
    have R6 := Lib.hid (R3.out.far c6 (by omega))
    have Q6 := Lib.hid (Q3.out.far c6 (by have := hqg.out; omega))
    have k6 := Lib.hid (k3.out.trans c6)
    have H6 := Lib.hid (H3.out.chg c6 (by omega))
    clear s3 c6 r60 r61 R3 Q3 k3 H3
    go_wp2_with fail
    refine (l01Next g 24 _ s6 (by omega)).mono ?_
    rintro e w7 ⟨r7, rfl, _, s7, c7⟩
    have R7 := Lib.hid (R6.out.far c7 (by omega))
    have Q7 := Lib.hid (Q6.out.far c7 (by have := hqg.out; omega))
    have k7 := Lib.hid (k6.out.trans c7)
    have H7 := Lib.hid (H6.out.chg c7 (by omega))
    have S7 := Lib.hid s7
    clear s6 c7 R6 Q6 k6 H6 s7
    have hqw : Hid (w.heap.size ≠ q) := by show _ ≠ _; have := hqg.out; omega
    have pQ := Q7.out.c
    have fQ := Q7.out.f
    have pR := R7.out.c
    have fR := R7.out.f
    have hretR := fun u => R7.out.ret u
    by_cases q0 : r7 = 0
    · subst q0
      have pQu := fun u => Q7.out.ret u
      have pRu := fun u => (R7.out.set (g := q) (i := 0) (u := u) hqw.out).c
      have fRu := fun u => (R7.out.set (g := q) (i := 0) (u := u) hqw.out).f
      have hretRu := fun u v => (R7.out.set (g := q) (i := 0) (u := u) hqw.out).ret v
      have c3I : (3 : Int) ≤ (c : Int) := by omega
      have hfin := Lib.hid (any_end (c := c) (V := .slice (some ⟨b, 0, none⟩) 3 c) hg (by omega : 3 ≤ 4) (by omega) ((H7.out.box Q7.out slice_no hbq.out (.slice (some ⟨b, 0, none⟩) 3 c)).three) (rows15_take h15.out) (Src_far (i := 0) S7.out (by have := hqg.out; omega) _) (chg_new k7.out (by have := hqg.out; omega) _))
      go_wp2_with fail
      (try simp only [Exit.inBlock, Exit.then])
      refine bodyPost_ret (v := .agg #[.slice (some ⟨b, 0, none⟩) 3 c]) (by simp [results, Try.results115, go_sem, hretRu]; try rfl) rfl ?_
      exact hfin.out
    have t1 : (r7 == 0) = false := by simpa using q0
    by_cases q1 : r7 = 1
    · subst q1
      obtain ⟨B, C, hcell, hfrz, hrd, hle, hpl, hne⟩ := H7.out.at_ hkk
      have hl15 := h15.out kk
      by_cases hL : (zss.getD kk []).length = 0
      · have hfin := Lib.hid (any_end (c := c) (V := .slice (some ⟨b, 0, none⟩) 4 c) hg (Nat.le_refl 4) (by omega) H7.out.rdr h15.out S7.out k7.out)
        rw [hL] at hcell
        clear hL hrd hle hne hl15
        go_wp2_with fail
        (try simp only [Exit.inBlock, Exit.then])
        refine bodyPost_ret (v := .agg #[.slice (some ⟨b, 0, none⟩) 4 c]) (by simp [results, Try.results115, go_sem, hretR]; try rfl) rfl ?_
        exact hfin.out
      · obtain ⟨rb, ro, rfl, l1, l2, hcs⟩ := hrd.2 (by omega)
        have hdl : Hid (((zss.getD kk []).drop 1).length = (zss.getD kk []).length - 1) := by show _ = _; simp
        have hput : Hid (∀ D, (1 < (zss.getD kk []).length → D = some ⟨rb, ro + 1, none⟩) → (∃ p o, D = some ⟨p, o, none⟩) → HalfR (w7.setCell ⟨b, kk, none⟩ (.slice D ((zss.getD kk []).length - 1) (C - 1))) (w.heap.size + 1) b (zss.set kk ((zss.getD kk []).drop 1))) := by
          intro D hD hDp
          have hq := H7.out.set hkk (D := D) (dc := C - 1) (ys := (zss.getD kk []).drop 1) (by
            have := Rd.drop D hrd (k := 1) (by omega) (fun q => hD (by omega))
            rw [hdl.out]; exact this) (by rw [hdl.out]; omega) (by obtain ⟨p, o, e⟩ := hDp; rw [e]; exact Plain.at_ _ _ _) (fun q x hx => by
            rw [hdl.out] at q
            rw [hD (by omega)] at hx
            injection hx with hx
            rw [← hx]
            show rb ≠ b
            exact hne (by omega) ⟨rb, ro, none⟩ rfl)
          rw [hdl.out] at hq
          exact hq
        have h15' := Lib.hid (rows15_set (i := kk) (ys := (zss.getD kk []).drop 1) h15.out (by have := H7.out.1; omega) (by rw [hdl.out]; omega))
        have hL1 : (1 : Int) ≤ ((zss.getD kk []).length : Int) := by omega
        have hLpos : (0 : Int) < ((zss.getD kk []).length : Int) := by omega
        have hLC : ((zss.getD kk []).length : Int) ≤ (C : Int) := by omega
        have hbqn := hbq.out
        have pQb := fun u => (Q7.out.set (g := b) (i := kk) (u := u) (fun e => hbq.out e.symm)).c
        have hwb : Hid (w.heap.size ≠ b) := by show _ ≠ _; have := H7.out.2.1; omega
        have pRb := fun u => (R7.out.set (g := b) (i := kk) (u := u) hwb.out).c
        have fRb := fun u => (R7.out.set (g := b) (i := kk) (u := u) hwb.out).f
        have hretb := fun u v => (R7.out.set (g := b) (i := kk) (u := u) hwb.out).ret v
        have hSb := Lib.hid (fun u => Src_far (i := kk) (b := b) S7.out (by have := H7.out.2.1; omega) u)
        have hkb := Lib.hid (fun u => chg_new (i := kk) (b := b) k7.out (by have := H7.out.2.1; omega) u)
        clear hne hcs hdl hrd
        generalize (zss.getD kk []).length = L at hcell hput hL1 hLpos hLC hL hle hl15
        by_cases hC1 : C = 1
        · subst hC1
          obtain rfl : L = 1 := by omega
          have hfin := Lib.hid (any_end (c := c) (V := .slice (some ⟨b, 0, none⟩) 4 c) hg (Nat.le_refl 4) (by omega) (hput.out (some ⟨rb, ro, none⟩) (fun q => by omega) ⟨rb, ro, rfl⟩).rdr h15'.out (hSb.out _) (hkb.out _))
          clear hput
          go_wp2_with fail
          go_region
          go_wp2_with fail
          (try simp only [Exit.inBlock, Exit.then])
          refine bodyPost_ret (v := .agg #[.slice (some ⟨b, 0, none⟩) 4 c]) (by simp [results, Try.results115, go_sem, hretb]; try rfl) rfl ?_
          first | exact hfin.out.drew | exact hfin.out
        · have hfin := Lib.hid (any_end (c := c) (V := .slice (some ⟨b, 0, none⟩) 4 c) hg (Nat.le_refl 4) (by omega) (hput.out (some ⟨rb, ro + 1, none⟩) (fun q => rfl) ⟨rb, ro + 1, rfl⟩).rdr h15'.out (hSb.out _) (hkb.out _))
          clear hput
          go_wp2_with fail
          go_region
          go_wp2_with fail
          (try simp only [Exit.inBlock, Exit.then])
          refine bodyPost_ret (v := .agg #[.slice (some ⟨b, 0, none⟩) 4 c]) (by simp [results, Try.results115, go_sem, hretb]; try rfl) rfl ?_
          first | exact hfin.out.drew | exact hfin.out
    have t2 : (r7 == 1) = false := by simpa using q1
    by_cases q2 : r7 = 2
    · subst q2
      obtain ⟨mm, hmm⟩ : ∃ mm : Nat, ((kk : Int) + 1) % 4 = mm := ⟨(((kk : Int) + 1) % 4).toNat, by omega⟩
      have hm4 : mm < 4 := by omega
      have hmI : (mm : Int) < 4 := by omega
      have hm0 : (0 : Int) ≤ (mm : Int) := by omega
      have htm : ((kk : Int) + 1).tmod 4 = (mm : Int) := by rw [Int.tmod_eq_emod_of_nonneg (by omega)]; exact hmm
      have wf1 : IntKind.i64.wrap ((kk : Int) + 1) = (kk : Int) + 1 := IntWalk.i64_in _ (by omega)
      obtain ⟨B, C, hcell, _, hrd, hle, hpl, _⟩ := H7.out.at_ hm4
      obtain ⟨B', C', hcell', hfrz', _, _, _, _⟩ := H7.out.at_ hkk
      have hl15 := h15.out mm
      have hkm : Hid (kk ≠ mm) := by show _ ≠ _; omega
      have hnil := plain_nil hpl
      have hwb : Hid (w.heap.size ≠ b) := by show _ ≠ _; have := H7.out.2.1; omega
      have hput : Hid (∀ w8 D dc ys, Below w7.heap.size w7 w8 → Own w8 w7.heap.size w8.heap.size D ys.length ys → ys.length ≤ dc → Plain D dc → HalfR (w8.setCell ⟨b, kk, none⟩ (.slice D ys.length dc)) (w.heap.size + 1) b (zss.set kk ys)) := by
        intro w8 D dc ys hb8 ho8 h1 h2
        have hH8 := H7.out.chg (Chg.of_below hb8 0 0) (Nat.zero_le _)
        refine hH8.set hkk (ho8.rd.more (by have := H7.out.2.2.1; have := H7.out.2.1; omega) (Nat.le_refl _)) h1 h2 (fun q x hx => ?_)
        obtain ⟨d, _, e, m1, _⟩ := ho8.2 q
        rw [e] at hx
        injection hx with hx
        rw [← hx]
        show d ≠ b
        have := H7.out.2.2.1
        omega
      have h15' := Lib.hid (fun ys (hy : ys.length ≤ 15) => rows15_set (i := kk) (ys := ys) h15.out (by have := H7.out.1; omega) hy)
      have hmd := OwnV.made w7.drew (base := w7.heap.size) (by simp)
      have ka0 := fun o => box_still pQ (Chg.of_alloc w7 o 0 0)
      have ka1 := fun o => box_still hcell (Chg.of_alloc w7 o 0 0)
      clear hmm
      generalize zss.getD mm [] = row at hcell hrd hle hl15 ka1
      generalize (zss.getD kk []).length = lk at hcell'
      go_wp2_with fail
      go_region_held3 (fun W => W.cell? ⟨q, 0, none⟩ = some (.slice (some ⟨b, 0, none⟩) 4 c) ∧ W.cell? ⟨b, mm, none⟩ = some (.slice B row.length C)) (first | exact ⟨pQ, hcell⟩ | exact ⟨ka0 _, ka1 _⟩ | exact ⟨pQ8, hm8⟩ | exact ⟨pQs8 _, hms8 _⟩) (first | (refine step_cat rfl (.tmp 48) (.tmp 55) rfl w7.heap.size _ [] (by rfl) hmd _ _ B row.length C row (by rfl) hnil (hrd.still ((Chg.drewN w7 1 0 0).trans (Chg.of_alloc _ _ _ _))) (by simp; omega) (by simp) ?_; intro v1 w8 o1 b1; obtain ⟨D, c1, rfl, hc1, hp1, ow1⟩ := o1.form_at (n := row.length) (by simp); have hg1 : Below w7.heap.size w7 w8 := ((Below.refl _ _).drew.alloc (by simp) _).trans b1; have pQ8 := box_still pQ (Chg.of_below hg1 0 0); have hc8 := box_still hcell' (Chg.of_below hg1 0 0); have hf8 : w8.frozen? ⟨b, kk, none⟩ = false := by { unfold World.frozen?; rw [hg1.block b (lt_of_cell hcell')]; exact hfrz' }; have hm8 := box_still hcell (Chg.of_below hg1 0 0); have pQs8 := fun u => ((Q7.out.still (Chg.of_below hg1 0 0)).set (g := b) (i := kk) (u := u) (fun e => hbq.out e.symm)).c; have hms8 := fun u => (cell_other w8 b kk mm u hkm.out).trans hm8))
      all_goals
        have Q8 := Q7.out.still (Chg.of_below hg1 0 0)
        have R8 := R7.out.still (Chg.of_below hg1 0 0)
        have pQb := fun u => (Q8.set (g := b) (i := kk) (u := u) (fun e => hbq.out e.symm)).c
        have pRb := fun u => (R8.set (g := b) (i := kk) (u := u) hwb.out).c
        have fRb := fun u => (R8.set (g := b) (i := kk) (u := u) hwb.out).f
        have hretb := fun u v => (R8.set (g := b) (i := kk) (u := u) hwb.out).ret v
        have hsz8 := hg1.size
        have hfin := Lib.hid (any_end (c := c) (V := .slice (some ⟨b, 0, none⟩) 4 c) hg (Nat.le_refl 4) (by omega) (hput.out w8 D c1 row hg1 ow1 hc1 hp1).rdr (h15'.out row hl15) (Src_far (i := kk) (b := b) (S7.out.still (Chg.of_below hg1 0 0)) (by have := H7.out.2.1; omega) (.slice D row.length c1)) (chg_new (i := kk) (b := b) (k7.out.trans (Chg.of_below hg1 _ _)) (by have := H7.out.2.1; omega) (.slice D row.length c1)))
        clear ow1 o1 b1 hg1 pQ8 hc8 hf8 hrd hcell hcell' ka0 ka1 hmd hput hm8 pQs8 hms8
        (try go_wp2_with fail)
        (try simp only [Exit.inBlock, Exit.then])
        refine bodyPost_ret (v := .agg #[.slice (some ⟨b, 0, none⟩) 4 c]) (by simp [results, Try.results115, go_sem, hretb]; try rfl) rfl ?_
        first | exact hfin.out | exact hfin.out.drew
    have t3 : (r7 == 2) = false := by simpa using q2
    by_cases q3 : r7 = 3
    · subst q3
      obtain ⟨B', C', hcell', hfrz', _, _, _, _⟩ := H7.out.at_ hkk
      have hwb : Hid (w.heap.size ≠ b) := by show _ ≠ _; have := H7.out.2.1; omega
      have hbl := Lib.hid H7.out.2.2.1
      have hbg : Hid (g + 1 ≤ b) := by show _ ≤ _; have := H7.out.2.1; omega
      have h15' := Lib.hid (fun ys (hy : ys.length ≤ 15) => rows15_set (i := kk) (ys := ys) h15.out (by have := H7.out.1; omega) hy)
      have hDraw := Lib.hid (l01DrawAny g w7.drew (S7.out.still (Chg.drewN w7 1 0 0)))
      generalize (zss.getD kk []).length = lk at hcell'
      go_wp2_with fail
      go_region_held3 (fun W => W.cell? ⟨q, 0, none⟩ = some (.slice (some ⟨b, 0, none⟩) 4 c)) (first | exact pQ | exact pQ8 | exact pQs8 _) (first | (go_at_call 145; refine hDraw.out.mono ?_; rintro e w8 ⟨v8, z8, rfl, hl8, o8, s8, c8'⟩; have c8 := Lib.hid (((Chg.drewN w7 1 0 0).any g (g + 1)).trans c8'); obtain ⟨D, c1, rfl, hc1, hp1, ow1⟩ := o8.form; have Q8 := Lib.hid (Q7.out.far c8.out (by have := hqg.out; omega)); have pQ8 := Q8.out.c; have HB8 := Lib.hid (c8.out.block b hbl.out (.inr hbg.out)); have hc8 : w8.cell? ⟨b, kk, none⟩ = some (.slice B' lk C') := (World.cell?_of_block HB8.out).trans hcell'; have hf8 : w8.frozen? ⟨b, kk, none⟩ = false := by { unfold World.frozen?; rw [HB8.out]; exact hfrz' }; have pQs8 := fun u => (Q8.out.set (g := b) (i := kk) (u := u) (fun e => hbq.out e.symm)).c))
      all_goals
        have H8 := H7.out.chg c8.out (by omega)
        have R8 := R7.out.far c8.out (by omega)
        have pQb := fun u => (Q8.out.set (g := b) (i := kk) (u := u) (fun e => hbq.out e.symm)).c
        have pRb := fun u => (R8.set (g := b) (i := kk) (u := u) hwb.out).c
        have fRb := fun u => (R8.set (g := b) (i := kk) (u := u) hwb.out).f
        have hretb := fun u v => (R8.set (g := b) (i := kk) (u := u) hwb.out).ret v
        have hset := H8.set hkk (D := D) (dc := c1) (ys := z8) (ow1.rd.more (by have := hbl.out; have := H7.out.2.1; show w.heap.size + 1 ≤ w7.heap.size; omega) (Nat.le_refl _)) hc1 hp1 (fun q x hx => by
          obtain ⟨d, _, e, m1, _⟩ := ow1.2 q
          rw [e] at hx
          injection hx with hx
          rw [← hx]
          show d ≠ b
          have := hbl.out
          have m1' : w7.heap.size ≤ d := m1
          omega)
        have hfin := Lib.hid (any_end (c := c) (V := .slice (some ⟨b, 0, none⟩) 4 c) hg (Nat.le_refl 4) (by omega) hset.rdr (h15'.out z8 hl8) (Src_far (i := kk) (b := b) s8 (by have := hbg.out; omega) (.slice D z8.length c1)) (chg_new (i := kk) (b := b) (k7.out.trans c8.out) (by have := H7.out.2.1; omega) (.slice D z8.length c1)))
        clear ow1 o8 c8' pQ8 hc8 hf8 hcell' hset H8 hl8 pQs8
        (try go_wp2_with fail)
        (try simp only [Exit.inBlock, Exit.then])
        refine bodyPost_ret (v := .agg #[.slice (some ⟨b, 0, none⟩) 4 c]) (by simp [results, Try.results115, go_sem, hretb]; try rfl) rfl ?_
        first | exact hfin.out | exact hfin.out.drew
    have t4 : (r7 == 3) = false := by simpa using q3
    clear q0 q1 q2 q3
    have hfin := Lib.hid (any_end (c := c) (V := .slice (some ⟨b, 0, none⟩) 4 c) hg (Nat.le_refl 4) (by omega) H7.out.rdr h15.out S7.out k7.out)
    go_wp2_with fail
    (try simp only [Exit.inBlock, Exit.then])
    refine bodyPost_ret (v := .agg #[.slice (some ⟨b, 0, none⟩) 4 c]) (by simp [results, Try.results115, go_sem, hretR]; try rfl) rfl ?_
    exact hfin.out
  · have t0 : (r3 == 0) = false := by simpa using p0
    clear p0
    go_wp2_with fail
    refine (l01Next g 4 _ s3 (by omega)).mono ?_
    rintro e w6 ⟨r6, rfl, ⟨r60, r61⟩, s6, c6⟩
    obtain ⟨kk, rfl⟩ : ∃ kk : Nat, r6 = kk := ⟨r6.toNat, by omega⟩
    have hkk : kk < 4 := by have := r61 (by omega); omega
    have hkI : (kk : Int) < 4 := by omega
    have R6 := Lib.hid (R3.out.far c6 (by omega))
    have Q6 := Lib.hid (Q3.out.far c6 (by have := hqg.out; omega))
    have k6 := Lib.hid (k3.out.trans c6)
    have H6 := Lib.hid (H3.out.chg c6 (by omega))
    clear s3 c6 r60 r61 R3 Q3 k3 H3
    go_wp2_with fail
    refine (l01Next g 24 _ s6 (by omega)).mono ?_
    rintro e w7 ⟨r7, rfl, _, s7, c7⟩
    have R7 := Lib.hid (R6.out.far c7 (by omega))
    have Q7 := Lib.hid (Q6.out.far c7 (by have := hqg.out; omega))
    have k7 := Lib.hid (k6.out.trans c7)
    have H7 := Lib.hid (H6.out.chg c7 (by omega))
    have S7 := Lib.hid s7
    clear s6 c7 R6 Q6 k6 H6 s7
    have hqw : Hid (w.heap.size ≠ q) := by show _ ≠ _; have := hqg.out; omega
    have pQ := Q7.out.c
    have fQ := Q7.out.f
    have pR := R7.out.c
    have fR := R7.out.f
    have hretR := fun u => R7.out.ret u
    by_cases q0 : r7 = 0
    · subst q0
      have pQu := fun u => Q7.out.ret u
      have pRu := fun u => (R7.out.set (g := q) (i := 0) (u := u) hqw.out).c
      have fRu := fun u => (R7.out.set (g := q) (i := 0) (u := u) hqw.out).f
      have hretRu := fun u v => (R7.out.set (g := q) (i := 0) (u := u) hqw.out).ret v
      have c3I : (3 : Int) ≤ (c : Int) := by omega
      have hfin := Lib.hid (any_end (c := c) (V := .slice (some ⟨b, 0, none⟩) 3 c) hg (by omega : 3 ≤ 4) (by omega) ((H7.out.box Q7.out slice_no hbq.out (.slice (some ⟨b, 0, none⟩) 3 c)).three) (rows15_take h15.out) (Src_far (i := 0) S7.out (by have := hqg.out; omega) _) (chg_new k7.out (by have := hqg.out; omega) _))
      go_wp2_with fail
      (try simp only [Exit.inBlock, Exit.then])
      refine bodyPost_ret (v := .agg #[.slice (some ⟨b, 0, none⟩) 3 c]) (by simp [results, Try.results115, go_sem, hretRu]; try rfl) rfl ?_
      exact hfin.out
    have t1 : (r7 == 0) = false := by simpa using q0
    by_cases q1 : r7 = 1
    · subst q1
      obtain ⟨B, C, hcell, hfrz, hrd, hle, hpl, hne⟩ := H7.out.at_ hkk
      have hl15 := h15.out kk
      by_cases hL : (zss.getD kk []).length = 0
      · have hfin := Lib.hid (any_end (c := c) (V := .slice (some ⟨b, 0, none⟩) 4 c) hg (Nat.le_refl 4) (by omega) H7.out.rdr h15.out S7.out k7.out)
        rw [hL] at hcell
        clear hL hrd hle hne hl15
        go_wp2_with fail
        (try simp only [Exit.inBlock, Exit.then])
        refine bodyPost_ret (v := .agg #[.slice (some ⟨b, 0, none⟩) 4 c]) (by simp [results, Try.results115, go_sem, hretR]; try rfl) rfl ?_
        exact hfin.out
      · obtain ⟨rb, ro, rfl, l1, l2, hcs⟩ := hrd.2 (by omega)
        have hdl : Hid (((zss.getD kk []).drop 1).length = (zss.getD kk []).length - 1) := by show _ = _; simp
        have hput : Hid (∀ D, (1 < (zss.getD kk []).length → D = some ⟨rb, ro + 1, none⟩) → (∃ p o, D = some ⟨p, o, none⟩) → HalfR (w7.setCell ⟨b, kk, none⟩ (.slice D ((zss.getD kk []).length - 1) (C - 1))) (w.heap.size + 1) b (zss.set kk ((zss.getD kk []).drop 1))) := by
          intro D hD hDp
          have hq := H7.out.set hkk (D := D) (dc := C - 1) (ys := (zss.getD kk []).drop 1) (by
            have := Rd.drop D hrd (k := 1) (by omega) (fun q => hD (by omega))
            rw [hdl.out]; exact this) (by rw [hdl.out]; omega) (by obtain ⟨p, o, e⟩ := hDp; rw [e]; exact Plain.at_ _ _ _) (fun q x hx => by
            rw [hdl.out] at q
            rw [hD (by omega)] at hx
            injection hx with hx
            rw [← hx]
            show rb ≠ b
            exact hne (by omega) ⟨rb, ro, none⟩ rfl)
          rw [hdl.out] at hq
          exact hq
        have h15' := Lib.hid (rows15_set (i := kk) (ys := (zss.getD kk []).drop 1) h15.out (by have := H7.out.1; omega) (by rw [hdl.out]; omega))
        have hL1 : (1 : Int) ≤ ((zss.getD kk []).length : Int) := by omega
        have hLpos : (0 : Int) < ((zss.getD kk []).length : Int) := by omega
        have hLC : ((zss.getD kk []).length : Int) ≤ (C : Int) := by omega
        have hbqn := hbq.out
        have pQb := fun u => (Q7.out.set (g := b) (i := kk) (u := u) (fun e => hbq.out e.symm)).c
        have hwb : Hid (w.heap.size ≠ b) := by show _ ≠ _; have := H7.out.2.1; omega
        have pRb := fun u => (R7.out.set (g := b) (i := kk) (u := u) hwb.out).c
        have fRb := fun u => (R7.out.set (g := b) (i := kk) (u := u) hwb.out).f
        have hretb := fun u v => (R7.out.set (g := b) (i := kk) (u := u) hwb.out).ret v
        have hSb := Lib.hid (fun u => Src_far (i := kk) (b := b) S7.out (by have := H7.out.2.1; omega) u)
        have hkb := Lib.hid (fun u => chg_new (i := kk) (b := b) k7.out (by have := H7.out.2.1; omega) u)
        clear hne hcs hdl hrd
        generalize (zss.getD kk []).length = L at hcell hput hL1 hLpos hLC hL hle hl15
        by_cases hC1 : C = 1
        · subst hC1
          obtain rfl : L = 1 := by omega
          have hfin := Lib.hid (any_end (c := c) (V := .slice (some ⟨b, 0, none⟩) 4 c) hg (Nat.le_refl 4) (by omega) (hput.out (some ⟨rb, ro, none⟩) (fun q => by omega) ⟨rb, ro, rfl⟩).rdr h15'.out (hSb.out _) (hkb.out _))
          clear hput
          go_wp2_with fail
          go_region
          go_wp2_with fail
          (try simp only [Exit.inBlock, Exit.then])
          refine bodyPost_ret (v := .agg #[.slice (some ⟨b, 0, none⟩) 4 c]) (by simp [results, Try.results115, go_sem, hretb]; try rfl) rfl ?_
          first | exact hfin.out.drew | exact hfin.out
        · have hfin := Lib.hid (any_end (c := c) (V := .slice (some ⟨b, 0, none⟩) 4 c) hg (Nat.le_refl 4) (by omega) (hput.out (some ⟨rb, ro + 1, none⟩) (fun q => rfl) ⟨rb, ro + 1, rfl⟩).rdr h15'.out (hSb.out _) (hkb.out _))
          clear hput
          go_wp2_with fail
          go_region
          go_wp2_with fail
          (try simp only [Exit.inBlock, Exit.then])
          refine bodyPost_ret (v := .agg #[.slice (some ⟨b, 0, none⟩) 4 c]) (by simp [results, Try.results115, go_sem, hretb]; try rfl) rfl ?_
          first | exact hfin.out.drew | exact hfin.out
    have t2 : (r7 == 1) = false := by simpa using q1
    by_cases q2 : r7 = 2
    · subst q2
      obtain ⟨mm, hmm⟩ : ∃ mm : Nat, ((kk : Int) + 1) % 4 = mm := ⟨(((kk : Int) + 1) % 4).toNat, by omega⟩
      have hm4 : mm < 4 := by omega
      have hmI : (mm : Int) < 4 := by omega
      have hm0 : (0 : Int) ≤ (mm : Int) := by omega
      have htm : ((kk : Int) + 1).tmod 4 = (mm : Int) := by rw [Int.tmod_eq_emod_of_nonneg (by omega)]; exact hmm
      have wf1 : IntKind.i64.wrap ((kk : Int) + 1) = (kk : Int) + 1 := IntWalk.i64_in _ (by omega)
      obtain ⟨B, C, hcell, _, hrd, hle, hpl, _⟩ := H7.out.at_ hm4
      obtain ⟨B', C', hcell', hfrz', _, _, _, _⟩ := H7.out.at_ hkk
      have hl15 := h15.out mm
      have hkm : Hid (kk ≠ mm) := by show _ ≠ _; omega
      have hnil := plain_nil hpl
      have hwb : Hid (w.heap.size ≠ b) := by show _ ≠ _; have := H7.out.2.1; omega
      have hput : Hid (∀ w8 D dc ys, Below w7.heap.size w7 w8 → Own w8 w7.heap.size w8.heap.size D ys.length ys → ys.length ≤ dc → Plain D dc → HalfR (w8.setCell ⟨b, kk, none⟩ (.slice D ys.length dc)) (w.heap.size + 1) b (zss.set kk ys)) := by
        intro w8 D dc ys hb8 ho8 h1 h2
        have hH8 := H7.out.chg (Chg.of_below hb8 0 0) (Nat.zero_le _)
        refine hH8.set hkk (ho8.rd.more (by have := H7.out.2.2.1; have := H7.out.2.1; omega) (Nat.le_refl _)) h1 h2 (fun q x hx => ?_)
        obtain ⟨d, _, e, m1, _⟩ := ho8.2 q
        rw [e] at hx
        injection hx with hx
        rw [← hx]
        show d ≠ b
        have := H7.out.2.2.1
        omega
      have h15' := Lib.hid (fun ys (hy : ys.length ≤ 15) => rows15_set (i := kk) (ys := ys) h15.out (by have := H7.out.1; omega) hy)
      have hmd := OwnV.made w7.drew (base := w7.heap.size) (by simp)
      have ka0 := fun o => box_still pQ (Chg.of_alloc w7 o 0 0)
      have ka1 := fun o => box_still hcell (Chg.of_alloc w7 o 0 0)
      clear hmm
      generalize zss.getD mm [] = row at hcell hrd hle hl15 ka1
      generalize (zss.getD kk []).length = lk at hcell'
      go_wp2_with fail
      go_region_held3 (fun W => W.cell? ⟨q, 0, none⟩ = some (.slice (some ⟨b, 0, none⟩) 4 c) ∧ W.cell? ⟨b, mm, none⟩ = some (.slice B row.length C)) (first | exact ⟨pQ, hcell⟩ | exact ⟨ka0 _, ka1 _⟩ | exact ⟨pQ8, hm8⟩ | exact ⟨pQs8 _, hms8 _⟩) (first | (refine step_cat rfl (.tmp 48) (.tmp 55) rfl w7.heap.size _ [] (by rfl) hmd _ _ B row.length C row (by rfl) hnil (hrd.still ((Chg.drewN w7 1 0 0).trans (Chg.of_alloc _ _ _ _))) (by simp; omega) (by simp) ?_; intro v1 w8 o1 b1; obtain ⟨D, c1, rfl, hc1, hp1, ow1⟩ := o1.form_at (n := row.length) (by simp); have hg1 : Below w7.heap.size w7 w8 := ((Below.refl _ _).drew.alloc (by simp) _).trans b1; have pQ8 := box_still pQ (Chg.of_below hg1 0 0); have hc8 := box_still hcell' (Chg.of_below hg1 0 0); have hf8 : w8.frozen? ⟨b, kk, none⟩ = false := by { unfold World.frozen?; rw [hg1.block b (lt_of_cell hcell')]; exact hfrz' }; have hm8 := box_still hcell (Chg.of_below hg1 0 0); have pQs8 := fun u => ((Q7.out.still (Chg.of_below hg1 0 0)).set (g := b) (i := kk) (u := u) (fun e => hbq.out e.symm)).c; have hms8 := fun u => (cell_other w8 b kk mm u hkm.out).trans hm8))
      all_goals
        have Q8 := Q7.out.still (Chg.of_below hg1 0 0)
        have R8 := R7.out.still (Chg.of_below hg1 0 0)
        have pQb := fun u => (Q8.set (g := b) (i := kk) (u := u) (fun e => hbq.out e.symm)).c
        have pRb := fun u => (R8.set (g := b) (i := kk) (u := u) hwb.out).c
        have fRb := fun u => (R8.set (g := b) (i := kk) (u := u) hwb.out).f
        have hretb := fun u v => (R8.set (g := b) (i := kk) (u := u) hwb.out).ret v
        have hsz8 := hg1.size
        have hfin := Lib.hid (any_end (c := c) (V := .slice (some ⟨b, 0, none⟩) 4 c) hg (Nat.le_refl 4) (by omega) (hput.out w8 D c1 row hg1 ow1 hc1 hp1).rdr (h15'.out row hl15) (Src_far (i := kk) (b := b) (S7.out.still (Chg.of_below hg1 0 0)) (by have := H7.out.2.1; omega) (.slice D row.length c1)) (chg_new (i := kk) (b := b) (k7.out.trans (Chg.of_below hg1 _ _)) (by have := H7.out.2.1; omega) (.slice D row.length c1)))
        clear ow1 o1 b1 hg1 pQ8 hc8 hf8 hrd hcell hcell' ka0 ka1 hmd hput hm8 pQs8 hms8
        (try go_wp2_with fail)
        (try simp only [Exit.inBlock, Exit.then])
        refine bodyPost_ret (v := .agg #[.slice (some ⟨b, 0, none⟩) 4 c]) (by simp [results, Try.results115, go_sem, hretb]; try rfl) rfl ?_
        first | exact hfin.out | exact hfin.out.drew
    have t3 : (r7 == 2) = false := by simpa using q2
    by_cases q3 : r7 = 3
    · subst q3
      obtain ⟨B', C', hcell', hfrz', _, _, _, _⟩ := H7.out.at_ hkk
      have hwb : Hid (w.heap.size ≠ b) := by show _ ≠ _; have := H7.out.2.1; omega
      have hbl := Lib.hid H7.out.2.2.1
      have hbg : Hid (g + 1 ≤ b) := by show _ ≤ _; have := H7.out.2.1; omega
      have h15' := Lib.hid (fun ys (hy : ys.length ≤ 15) => rows15_set (i := kk) (ys := ys) h15.out (by have := H7.out.1; omega) hy)
      have hDraw := Lib.hid (l01DrawAny g w7.drew (S7.out.still (Chg.drewN w7 1 0 0)))
      generalize (zss.getD kk []).length = lk at hcell'
      go_wp2_with fail
      go_region_held3 (fun W => W.cell? ⟨q, 0, none⟩ = some (.slice (some ⟨b, 0, none⟩) 4 c)) (first | exact pQ | exact pQ8 | exact pQs8 _) (first | (go_at_call 145; refine hDraw.out.mono ?_; rintro e w8 ⟨v8, z8, rfl, hl8, o8, s8, c8'⟩; have c8 := Lib.hid (((Chg.drewN w7 1 0 0).any g (g + 1)).trans c8'); obtain ⟨D, c1, rfl, hc1, hp1, ow1⟩ := o8.form; have Q8 := Lib.hid (Q7.out.far c8.out (by have := hqg.out; omega)); have pQ8 := Q8.out.c; have HB8 := Lib.hid (c8.out.block b hbl.out (.inr hbg.out)); have hc8 : w8.cell? ⟨b, kk, none⟩ = some (.slice B' lk C') := (World.cell?_of_block HB8.out).trans hcell'; have hf8 : w8.frozen? ⟨b, kk, none⟩ = false := by { unfold World.frozen?; rw [HB8.out]; exact hfrz' }; have pQs8 := fun u => (Q8.out.set (g := b) (i := kk) (u := u) (fun e => hbq.out e.symm)).c))
      all_goals
        have H8 := H7.out.chg c8.out (by omega)
        have R8 := R7.out.far c8.out (by omega)
        have pQb := fun u => (Q8.out.set (g := b) (i := kk) (u := u) (fun e => hbq.out e.symm)).c
        have pRb := fun u => (R8.set (g := b) (i := kk) (u := u) hwb.out).c
        have fRb := fun u => (R8.set (g := b) (i := kk) (u := u) hwb.out).f
        have hretb := fun u v => (R8.set (g := b) (i := kk) (u := u) hwb.out).ret v
        have hset := H8.set hkk (D := D) (dc := c1) (ys := z8) (ow1.rd.more (by have := hbl.out; have := H7.out.2.1; show w.heap.size + 1 ≤ w7.heap.size; omega) (Nat.le_refl _)) hc1 hp1 (fun q x hx => by
          obtain ⟨d, _, e, m1, _⟩ := ow1.2 q
          rw [e] at hx
          injection hx with hx
          rw [← hx]
          show d ≠ b
          have := hbl.out
          have m1' : w7.heap.size ≤ d := m1
          omega)
        have hfin := Lib.hid (any_end (c := c) (V := .slice (some ⟨b, 0, none⟩) 4 c) hg (Nat.le_refl 4) (by omega) hset.rdr (h15'.out z8 hl8) (Src_far (i := kk) (b := b) s8 (by have := hbg.out; omega) (.slice D z8.length c1)) (chg_new (i := kk) (b := b) (k7.out.trans c8.out) (by have := H7.out.2.1; omega) (.slice D z8.length c1)))
        clear ow1 o8 c8' pQ8 hc8 hf8 hcell' hset H8 hl8 pQs8
        (try go_wp2_with fail)
        (try simp only [Exit.inBlock, Exit.then])
        refine bodyPost_ret (v := .agg #[.slice (some ⟨b, 0, none⟩) 4 c]) (by simp [results, Try.results115, go_sem, hretb]; try rfl) rfl ?_
        first | exact hfin.out | exact hfin.out.drew
    have t4 : (r7 == 3) = false := by simpa using q3
    clear q0 q1 q2 q3
    have hfin := Lib.hid (any_end (c := c) (V := .slice (some ⟨b, 0, none⟩) 4 c) hg (Nat.le_refl 4) (by omega) H7.out.rdr h15.out S7.out k7.out)
    go_wp2_with fail
    (try simp only [Exit.inBlock, Exit.then])
    refine bodyPost_ret (v := .agg #[.slice (some ⟨b, 0, none⟩) 4 c]) (by simp [results, Try.results115, go_sem, hretR]; try rfl) rfl ?_
    exact hfin.out

end Go.Proofs.Yteglffbeldlibaa.Lib1
