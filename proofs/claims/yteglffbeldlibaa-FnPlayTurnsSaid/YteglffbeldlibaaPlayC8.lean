/- Chapter 8, the model: the tricks of both sides. -/
import Derived.Test.YteglffbeldlibaaPlayQ8
namespace Go.Proofs.Yteglffbeldlibaa.Lib1
open Go.RowKit
set_option maxRecDepth 100000

theorem RetV.of_box (w w' : World) {c : Nat} {x y : Int} (hg : w.heap.size ≤ c) (h : SBox w' 2 c #[.int .i64 x, .int .i64 y]) (k : Below w.heap.size w w') : RetV w [x, y] (.returned (.slice (some ⟨c, 0, none⟩) 2 2)) w' :=
  ⟨_, rfl, ⟨by simp, .inr ⟨c, 2, _, rfl, hg, h, by simp, by unfold maxLen; omega, by simp, by simp⟩⟩, k⟩
set_option maxHeartbeats 8000000 in
/-- spec.l08Tricks -/
theorem l08Tricks (st ld : Int) (A : Option Addr) (n c : Nat) (cs : List Int) (w : World) (h : Rd w 0 w.heap.size A n cs) (hn : n ≤ 1048576) (hcap : n ≤ c) (hz : ∀ j, j < n → 0 ≤ cs.getD j 0 ∧ cs.getD j 0 ≤ 51) (hd : 0 ≤ ld ∧ ld ≤ 3) :
    Calls Try.prog 109 #[.agg #[.int .i64 st, .int .i64 ld, .slice A n c]] w (RetV w [cntS st ld cs 0 (n / 4), cntS st ld cs 1 (n / 4)]) := by
  have hl := Lib.hid h.1
  have e1 : (w.alloc (.cells #[.int .i64 st, .int .i64 ld, .slice A n c] 29)).heap.size = w.heap.size + 1 := by simp
  have c1 := Chg.of_alloc w (.cells #[.int .i64 st, .int .i64 ld, .slice A n c] 29) 0 0
  have c2 := Chg.of_alloc (w.alloc (.cells #[.int .i64 st, .int .i64 ld, .slice A n c] 29)) (.cells #[.int .i64 0, .int .i64 0] 2) 0 0
  have x1 := (SBox.new w 29 #[.int .i64 st, .int .i64 ld, .slice A n c]).still c2
  have x2 := SBox.new (w.alloc (.cells #[.int .i64 st, .int .i64 ld, .slice A n c] 29)) 2 #[.int .i64 0, .int .i64 0]
  rw [e1] at x2
  have C0 := Lib.hid (c1.trans c2)
  have X1 := Lib.hid x1
  have X2 := Lib.hid x2
  have z0 : w.heap.size + 1 < ((w.alloc (.cells #[.int .i64 st, .int .i64 ld, .slice A n c] 29)).alloc (.cells #[.int .i64 0, .int .i64 0] 2)).heap.size := by simp
  have H0 := Lib.hid (h.still C0.out)
  clear h e1 c1 c2 x1 x2
  go_enter Try.func109, Try.ntmps109
  go_wp2_with (refine wpList_load_row rfl 29 _ rfl w.heap.size rfl 29 #[.int .i64 st, .int .i64 ld, .slice A n c] (0, 0) _ X1.out Try.underlying29 rfl (play_info _ _ _ _ _) ?_)
  generalize (w.alloc (.cells #[.int .i64 st, .int .i64 ld, .slice A n c] 29)).alloc (.cells #[.int .i64 0, .int .i64 0] 2) = W at C0 X1 X2 H0 z0 ⊢
  refine (l08Leaders st ld A n c cs W (H0.out.more (Nat.le_refl 0) (by omega)) hn hcap hz hd).mono ?_
  rintro e w1 ⟨u, rfl, ou, b1⟩
  obtain ⟨U, cu, rfl, hcu, _, hown⟩ := ou.form
  have hul := hown.rd
  rw [leadL_len] at hul ⊢
  have k1 : Chg W w1 0 0 := Chg.of_below b1 0 0
  have Y2 := Lib.hid (X2.out.still k1)
  have C1 := Lib.hid (C0.out.trans k1)
  have z1 : w.heap.size + 1 < w1.heap.size := by have := k1.size; omega
  have z2 : w.heap.size + 2 ≤ W.heap.size := by omega
  have UL := Lib.hid hul
  obtain ⟨m, hm⟩ : ∃ m, m = n / 4 := ⟨_, rfl⟩
  rw [← hm] at UL ⊢
  have hm2 : m ≤ 1048576 := by omega
  have HM := Lib.hid hm
  clear hown ou b1 k1 hul X1 X2 H0 C0 z0 hm hz
  go_wp2_with fail
  go_loopw [5] (fun i wr => ∃ j : Nat, j ≤ m ∧ i = .int .i64 ((j : Int) + 1) ∧ Hid (SBox wr 2 (w.heap.size + 1) #[.int .i64 (cntS st ld cs 0 j), .int .i64 (cntS st ld cs 1 j)]) ∧ Hid (Rd wr W.heap.size w1.heap.size U (m + 1) (leadL st ld cs (m + 1))) ∧ Hid (Chg w wr 0 0)) (fun i _ => m + 1 - (intOf i).toNat)
  case atStart => exact ⟨0, Nat.zero_le _, rfl, Y2.out, UL.out, C1.out⟩
  case round =>
    obtain ⟨j, hj, rfl, hB, hR, hC⟩ := hrel
    by_cases hlt : j < m
    · have hkl : (j : Int) + 1 < (m : Int) + 1 := by omega
      obtain ⟨b2, off2, rfl, hu1, hu2, huc⟩ := hR.out.2 (by omega)
      have hle := huc (j + 1) (by omega)
      rw [leadL_at (by omega)] at hle
      have hlr := leadT_rng (st := st) hd cs (j + 1)
      have r0 := cntS_rng st ld cs 0 j
      have r1 := cntS_rng st ld cs 1 j
      have i1 : ((j : Int) + 1).toNat = j + 1 := by omega
      have i2 : 0 ≤ (j : Int) + 1 := by omega
      have g0 : cntS st ld cs 0 (j + 1) = cntS st ld cs 0 j + if leadT st ld cs (j + 1) % 2 = 0 then 1 else 0 := rfl
      have g1 : cntS st ld cs 1 (j + 1) = cntS st ld cs 1 j + if leadT st ld cs (j + 1) % 2 = 1 then 1 else 0 := rfl
      generalize leadT st ld cs (j + 1) = lj at hle hlr g0 g1
      obtain ⟨l0, l3⟩ := hlr
      have j6 : Int.tmod lj 2 = lj % 2 := Int.tmod_eq_emod_of_nonneg l0
      generalize cntS st ld cs 0 j = c0 at hB r0 g0
      generalize cntS st ld cs 1 j = c1 at hB r1 g1
      have p0 : wr.cell? ⟨w.heap.size + 1, 0, none⟩ = some (.int .i64 c0) := (hB.out.cell 0).trans rfl
      have p1 : wr.cell? ⟨w.heap.size + 1, 1, none⟩ = some (.int .i64 c1) := (hB.out.cell 1).trans rfl
      have hfr : ∀ i, wr.frozen? ⟨w.heap.size + 1, i, none⟩ = false := fun i => by have q := hB.out; unfold SBox at q; simp [World.frozen?, q]
      have f0 := hfr 0
      have f1 := hfr 1
      have w0 : IntKind.i64.wrap (c0 + 1) = c0 + 1 := by rw [IntKind.wrap_i64]; omega
      have w2 : IntKind.i64.wrap (c1 + 1) = c1 + 1 := by rw [IntKind.wrap_i64]; omega
      have G0 := Lib.hid g0
      have G1 := Lib.hid g1
      clear g0 g1 hfr huc r0 r1
      by_cases he : lj % 2 = 0
      · have NB := Lib.hid (show SBox (wr.setCell ⟨w.heap.size + 1, 0, none⟩ (.int .i64 (c0 + 1))) 2 (w.heap.size + 1) #[.int .i64 (cntS st ld cs 0 (j + 1)), .int .i64 (cntS st ld cs 1 (j + 1))] by
          rw [G0.out, G1.out, if_pos he, if_neg (by omega), Int.add_zero]
          exact set_heapS hB.out 0 _)
        have NR := Lib.hid (show Rd (wr.setCell ⟨w.heap.size + 1, 0, none⟩ (.int .i64 (c0 + 1))) W.heap.size w1.heap.size (some ⟨b2, off2, none⟩) (m + 1) (leadL st ld cs (m + 1)) from hR.out.chg ((Chg.refl wr (w.heap.size + 1) (w.heap.size + 2)).store (Nat.le_refl _) (by omega) _) (.inr z2))
        have NC := Lib.hid (hC.out.setS (g := w.heap.size + 1) (i := 0) (v := .int .i64 (c0 + 1)) (by omega))
        go_wp2_with fail
        go_roundw
        case rel => exact ⟨j + 1, by omega, by go_num, NB.out, NR.out, NC.out⟩
        case measure => simp [intOf]; omega
      · have he1 : lj % 2 = 1 := by omega
        have NB := Lib.hid (show SBox (wr.setCell ⟨w.heap.size + 1, 1, none⟩ (.int .i64 (c1 + 1))) 2 (w.heap.size + 1) #[.int .i64 (cntS st ld cs 0 (j + 1)), .int .i64 (cntS st ld cs 1 (j + 1))] by
          rw [G0.out, G1.out, if_neg he, if_pos he1, Int.add_zero]
          exact set_heapS hB.out 1 _)
        have NR := Lib.hid (show Rd (wr.setCell ⟨w.heap.size + 1, 1, none⟩ (.int .i64 (c1 + 1))) W.heap.size w1.heap.size (some ⟨b2, off2, none⟩) (m + 1) (leadL st ld cs (m + 1)) from hR.out.chg ((Chg.refl wr (w.heap.size + 1) (w.heap.size + 2)).store (Nat.le_refl _) (by omega) _) (.inr z2))
        have NC := Lib.hid (hC.out.setS (g := w.heap.size + 1) (i := 1) (v := .int .i64 (c1 + 1)) (by omega))
        clear he
        go_wp2_with fail
        go_roundw
        case rel => exact ⟨j + 1, by omega, by go_num, NB.out, NR.out, NC.out⟩
        case measure => simp [intOf]; omega
    · obtain rfl : j = m := by omega
      have hkl : ¬ (j : Int) + 1 < (j : Int) + 1 := by omega
      go_wp2_with fail
      go_ret
      rw [← HM.out]
      exact RetV.of_box w wr (by omega) hB.out hC.out.to_below

/-- The tricks of both sides of a plain play. -/
def tricksV (st ld : Int) (cs : List Int) : List Int := if plainB st ld cs then [cntS st ld cs 0 (cs.length / 4), cntS st ld cs 1 (cs.length / 4)] else []
set_option maxHeartbeats 4000000 in
/-- spec.TricksOfSides -/
theorem spec_TricksOfSides (st ld : Int) (A : Option Addr) (n c : Nat) (cs : List Int) (w : World) (h : Rd w 0 w.heap.size A n cs) (hn : n ≤ 1048576) (hcap : n ≤ c) :
    Calls Try.prog 55 #[.agg #[.int .i64 st, .int .i64 ld, .slice A n c]] w (RetV w (tricksV st ld cs)) := by
  have hl := Lib.hid h.1
  have HR := Lib.hid (show tricksV st ld cs = if plainB st ld cs then [cntS st ld cs 0 (n / 4), cntS st ld cs 1 (n / 4)] else [] by unfold tricksV; rw [hl.out])
  have B0 := Lib.hid (SBox.new w 29 #[.int .i64 st, .int .i64 ld, .slice A n c])
  have C0 := Lib.hid (Chg.of_alloc w (.cells #[.int .i64 st, .int .i64 ld, .slice A n c] 29) 0 0)
  have z0 : w.heap.size < (w.alloc (.cells #[.int .i64 st, .int .i64 ld, .slice A n c] 29)).heap.size := by simp
  have H := Lib.hid (h.still C0.out)
  clear h
  go_enter Try.func55, Try.ntmps55
  go_wp2_with (refine wpList_load_row rfl 29 _ rfl w.heap.size rfl 29 #[.int .i64 st, .int .i64 ld, .slice A n c] (0, 0) _ B0.out Try.underlying29 rfl (play_info _ _ _ _ _) ?_)
  generalize w.alloc (.cells #[.int .i64 st, .int .i64 ld, .slice A n c] 29) = W at B0 C0 H z0 ⊢
  refine (spec_IsPlainPlay st ld A n c cs 0 w.heap.size W H.out hn hcap).mono ?_
  rintro e w1 ⟨rfl, c1⟩
  have B1 := Lib.hid (B0.out.still c1)
  have C1 := Lib.hid (C0.out.trans c1)
  have H1 := Lib.hid (H.out.still c1)
  have z1 : w.heap.size < w1.heap.size := by have := c1.size; omega
  clear c1 B0 C0 H z0
  cases hp : plainB st ld cs
  · have hr := Lib.hid (show tricksV st ld cs = [] by rw [HR.out, hp]; rfl)
    clear hp
    go_wp2_with fail
    go_ret
    exact ⟨_, rfl, by rw [hr.out]; exact OwnV.nil_ _ _, C1.out.to_below⟩
  · have hr := Lib.hid (show tricksV st ld cs = [cntS st ld cs 0 (n / 4), cntS st ld cs 1 (n / 4)] by rw [HR.out, hp]; rfl)
    obtain ⟨hdf, _, hld, _⟩ := plain_parts hp
    rw [hl.out] at hdf
    have HDF := Lib.hid (diff_cards hdf)
    clear hp hdf
    go_wp2_with (refine wpList_load_row rfl 29 _ rfl w.heap.size rfl 29 #[.int .i64 st, .int .i64 ld, .slice A n c] (0, 0) _ B1.out Try.underlying29 rfl (play_info _ _ _ _ _) ?_)
    refine (l08Tricks st ld A n c cs w1 (H1.out.more (Nat.le_refl 0) (by omega)) hn hcap HDF.out hld).mono ?_
    rintro e w2 ⟨u, rfl, ou, b2⟩
    have O2 := Lib.hid (ou.more (show w.heap.size ≤ w1.heap.size by omega))
    have K2 := Lib.hid (C1.out.to_below.trans (b2.mono (by omega)))
    clear ou b2
    go_wp2_with fail
    go_ret
    exact ⟨_, rfl, by rw [hr.out]; exact O2.out, K2.out⟩
end Go.Proofs.Yteglffbeldlibaa.Lib1
