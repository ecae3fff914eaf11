/- The exact law of SameUpToSuits. -/
import Derived.Test.YteojdlacdnfgiaaEx5
import Derived.Test.YteojdlacdnfgiaaSuS5
import Derived.Test.YteojdlacdnfgiaaDealArg
namespace Go.Proofs.Yteojdlacdnfgiaa.Lib1
open Go.RowKit
set_option maxRecDepth 100000

theorem Sized.few {k v : Int} {n : Nat} {zss : List (List Int)} (h : Sized k n zss v) (hv : 0 ≤ v) (hk : k ≤ 1048576) : n ≤ 1048576 ∧ ∀ j, j < n → (zss.getD j []).length ≤ 1048576 := by
  rcases h with e | ⟨_, _, h1, h2, h3⟩
  · omega
  · exact ⟨by omega, fun j hj => by have := h2 j hj; omega⟩

theorem Sized.most {k v : Int} {n : Nat} {zss : List (List Int)} (h : Sized k n zss v) (hk : k ≤ 1048576) : v ≤ 1048576 := by
  rcases h with e | ⟨_, h1, _⟩ <;> omega

set_option maxHeartbeats 2000000 in
theorem law_SameUpToSuits (A0 : Option Addr) (n0 c0 : Nat) (zss0 : List (List Int)) (A1 : Option Addr) (n1 c1 : Nat) (zss1 : List (List Int)) (a2 : Int) (w : World) (h0 : RdR w 0 w.heap.size A0 n0 zss0) (l0 : Lens n0 zss0) (h1 : RdR w 0 w.heap.size A1 n1 zss1) (l1 : Lens n1 zss1) :
    Calls Try.prog 9 #[.agg #[.slice A0 n0 c0], .agg #[.slice A1 n1 c1], .int .i64 a2] w fun e w' => e = .returned (.bool true) ∧ Below w.heap.size w w' := by
  have k0 := Lib.hid ((Chg.of_alloc w (.cells #[.slice A0 n0 c0] 50) 0 0).trans (Chg.of_alloc _ (.cells #[.slice A1 n1 c1] 50) 0 0))
  have B0 := Lib.hid ((BoxAt.new w (.slice A0 n0 c0) 50 rfl).alloc (.cells #[.slice A1 n1 c1] 50))
  have B1 := Lib.hid (BoxAt.new (w.alloc (.cells #[.slice A0 n0 c0] 50)) (.slice A1 n1 c1) 50 (g := w.heap.size + 1) (by simp))
  obtain ⟨r, hr⟩ : ∃ r, sameV zss0 zss1 a2 = r := ⟨_, rfl⟩
  have HR := Lib.hid hr
  have HB := Lib.hid (fun V (k : Chg w V 0 0) => Chg.above (Below.refl w.heap.size w) k (by omega) (by omega))
  have R0 := Lib.hid (fun V (k : Chg w V 0 0) => h0.still k)
  have R1 := Lib.hid (fun V (k : Chg w V 0 0) => h1.still k)
  have L0 := Lib.hid l0
  have L1 := Lib.hid l1
  clear hr h0 h1 l0 l1
  go_enter Try.func9, Try.ntmps9
  go_wp2_with fail
  generalize (w.alloc (.cells #[.slice A0 n0 c0] 50)).alloc (.cells #[.slice A1 n1 c1] 50) = W at k0 B0 B1 ⊢
  have q0 := B0.out.c
  have q1 := B1.out.c
  go_wp2_with fail
  refine (szDeal A0 n0 c0 1048576 zss0 _ _ W (R0.out W k0.out) (by omega) (by omega) L0.out).mono ?_
  rintro e w1 ⟨u1, rfl, hu1, e1⟩
  have k1 := Lib.hid (k0.out.trans e1)
  have B0 := Lib.hid (B0.out.still e1)
  have B1 := Lib.hid (B1.out.still e1)
  clear q0 q1 e1 k0
  have q0 := B0.out.c
  have q1 := B1.out.c
  by_cases hv1 : u1 < 0
  · go_wp2_with fail
    go_ret
    exact ⟨rfl, HB.out _ k1.out⟩
  have hle1 : u1 ≤ 1048576 := hu1.most (by omega)
  obtain ⟨hm0, hl0⟩ := hu1.few (by omega) (by omega)
  have hlt1 : ¬ u1 < 0 := hv1
  clear hv1 hu1
  go_wp2_with fail
  refine (szDeal A1 n1 c1 u1 zss1 _ _ w1 (R1.out w1 k1.out) (by omega) (by omega) L1.out).mono ?_
  rintro e w2 ⟨u2, rfl, hu2, e2⟩
  have k2 := Lib.hid (k1.out.trans e2)
  have B0 := Lib.hid (B0.out.still e2)
  have B1 := Lib.hid (B1.out.still e2)
  clear q0 q1 e2 k1
  have q0 := B0.out.c
  have q1 := B1.out.c
  by_cases hv2 : u2 < 0
  · go_wp2_with fail
    go_ret
    exact ⟨rfl, HB.out _ k2.out⟩
  obtain ⟨hm1, hl1⟩ := hu2.few (by omega) (by omega)
  have hlt2 : ¬ u2 < 0 := hv2
  clear hv2 hu2
  have dr := Lib.hid (k2.out.trans (Chg.drewN w2 1 0 0))
  have dw := Lib.hid (Chg.drewN w2 1 0 0)
  go_wp2_with fail
  go_region_held3 (fun V => V.cell? ⟨w.heap.size, 0, none⟩ = some (.slice A0 n0 c0) ∧ V.cell? ⟨w.heap.size + 1, 0, none⟩ = some (.slice A1 n1 c1)) (first | exact ⟨q0, q1⟩ | exact ⟨box_still q0 j5.out, box_still q1 j5.out⟩ | exact ⟨box_still q0 j4.out, box_still q1 j4.out⟩ | exact ⟨box_still q0 j3.out, box_still q1 j3.out⟩) (first | (go_at_call 44; refine (spec_SameUpToSuits _ n0 n0 zss0 _ _ _ n1 n1 zss1 _ _ a2 w4 (o3.still f4).rd o4.rd hl0 hl1).mono ?_; rw [HR.out]; rintro e w5 ⟨rfl, e5⟩; have j5 := Lib.hid (j4.out.trans e5); have k5 := Lib.hid (k4.out.trans e5)) | (go_at_call 40; refine (toDeal A1 n1 c1 zss1 _ _ w3 (R1.out w3 k3.out) hm1 hl1).mono ?_; rintro e w4 ⟨g4, rfl, o4, f4⟩; have j4 := Lib.hid (j3.out.trans f4); have k4 := Lib.hid (k3.out.trans f4)) | (go_at_call 40; refine (toDeal A0 n0 c0 zss0 _ _ _ (R0.out _ dr.out) hm0 hl0).mono ?_; rintro e w3 ⟨g3, rfl, o3, f3⟩; have j3 := Lib.hid (dw.out.trans f3); have k3 := Lib.hid (dr.out.trans f3)))
  have B0 := Lib.hid (B0.out.still j5.out)
  have B1 := Lib.hid (B1.out.still j5.out)
  clear q0 q1 o3 o4 f3 f4 e5 j3 j4 j5 k3 k4 dr dw k2
  have q0 := B0.out.c
  go_wp2_with fail
  refine (toDeal A0 n0 c0 zss0 _ _ w5 (R0.out w5 k5.out) hm0 hl0).mono ?_
  rintro e w6 ⟨g6, rfl, o6, e6⟩
  have X6 := Lib.hid (BoxAt.new w6 (.slice (some ⟨g6, 0, none⟩) n0 n0) 36 rfl)
  have ca := e6.trans (Chg.of_alloc w6 (.cells #[.slice (some ⟨g6, 0, none⟩) n0 n0] 36) 0 0)
  have k6 := Lib.hid (k5.out.trans ca)
  have B0 := Lib.hid (B0.out.still ca)
  have B1 := Lib.hid (B1.out.still ca)
  have O6 := Lib.hid (o6.still (Chg.of_alloc w6 (.cells #[.slice (some ⟨g6, 0, none⟩) n0 n0] 36) 0 0))
  clear q0 ca e6 o6 k5
  have q1 := B1.out.c
  go_wp2_with fail
  generalize w6.alloc (.cells #[.slice (some ⟨g6, 0, none⟩) n0 n0] 36) = W6 at X6 k6 B0 B1 O6 q1 ⊢
  refine (toDeal A1 n1 c1 zss1 _ _ W6 (R1.out W6 k6.out) hm1 hl1).mono ?_
  rintro e w7 ⟨g7, rfl, o7, e7⟩
  have X7 := Lib.hid (BoxAt.new w7 (.slice (some ⟨g7, 0, none⟩) n1 n1) 36 rfl)
  have ca := e7.trans (Chg.of_alloc w7 (.cells #[.slice (some ⟨g7, 0, none⟩) n1 n1] 36) 0 0)
  have k7 := Lib.hid (k6.out.trans ca)
  have B0 := Lib.hid (B0.out.still ca)
  have B1 := Lib.hid (B1.out.still ca)
  have X6 := Lib.hid (X6.out.still ca)
  have O6 := Lib.hid (O6.out.still ca)
  have O7 := Lib.hid (o7.still (Chg.of_alloc w7 (.cells #[.slice (some ⟨g7, 0, none⟩) n1 n1] 36) 0 0))
  clear q1 ca e7 o7 k6
  have p6 := X6.out.c
  have p7 := X7.out.c
  go_wp2_with fail
  generalize w7.alloc (.cells #[.slice (some ⟨g7, 0, none⟩) n1 n1] 36) = W7 at X6 X7 k7 B0 B1 O6 O7 p6 p7 ⊢
  refine (impl_SameUpToSuits _ n0 n0 zss0 _ _ _ n1 n1 zss1 _ _ a2 W7 O6.out.rd O7.out.rd).mono ?_
  rw [HR.out]
  rintro e w8 ⟨rfl, e8⟩
  have k8 := Lib.hid (k7.out.trans e8)
  have B0 := Lib.hid (B0.out.still e8)
  have B1 := Lib.hid (B1.out.still e8)
  have X6 := Lib.hid (X6.out.still e8)
  have X7 := Lib.hid (X7.out.still e8)
  have O6 := Lib.hid (O6.out.still e8)
  have O7 := Lib.hid (O7.out.still e8)
  clear p6 p7 e8 k7
  have q := B0.out.c
  have x := X6.out.c
  have dr := Lib.hid (k8.out.trans (Chg.drewN w8 1 0 0))
  have dw := Lib.hid (Chg.drewN w8 1 0 0)
  go_wp2_with fail
  go_region_held3 (fun V => V.cell? ⟨w6.heap.size, 0, none⟩ = some (.slice (some ⟨g6, 0, none⟩) n0 n0) ∧ V.cell? ⟨w.heap.size, 0, none⟩ = some (.slice A0 n0 c0)) (first | exact ⟨x, q⟩ | exact ⟨box_still x j10.out, box_still q j10.out⟩ | exact ⟨box_still x j9.out, box_still q j9.out⟩) (first | (go_at_call 41; refine (eqDeal _ _ n0 n0 _ _ zss0 _ _ _ _ w9 (O6.out.still j9.out).rd o9.rd hm0 hl0).mono ?_; rintro e w10 ⟨rfl, e10⟩; have j10 := Lib.hid (j9.out.trans e10); have k10 := Lib.hid (k9.out.trans e10)) | (go_at_call 40; refine (toDeal A0 n0 c0 zss0 _ _ _ (R0.out _ dr.out) hm0 hl0).mono ?_; rintro e w9 ⟨g9, rfl, o9, f9⟩; have j9 := Lib.hid (dw.out.trans f9); have k9 := Lib.hid (dr.out.trans f9)))
  have B0 := Lib.hid (B0.out.still j10.out)
  have B1 := Lib.hid (B1.out.still j10.out)
  have X6 := Lib.hid (X6.out.still j10.out)
  have X7 := Lib.hid (X7.out.still j10.out)
  have O6 := Lib.hid (O6.out.still j10.out)
  have O7 := Lib.hid (O7.out.still j10.out)
  clear q x dr dw o9 f9 e10 j9 j10 k9 k8
  have q := B1.out.c
  have x := X7.out.c
  have dr := Lib.hid (k10.out.trans (Chg.drewN w10 1 0 0))
  have dw := Lib.hid (Chg.drewN w10 1 0 0)
  go_wp2_with fail
  go_region_held3 (fun V => V.cell? ⟨w7.heap.size, 0, none⟩ = some (.slice (some ⟨g7, 0, none⟩) n1 n1) ∧ V.cell? ⟨w.heap.size + 1, 0, none⟩ = some (.slice A1 n1 c1)) (first | exact ⟨x, q⟩ | exact ⟨box_still x j12.out, box_still q j12.out⟩ | exact ⟨box_still x j11.out, box_still q j11.out⟩) (first | (go_at_call 41; refine (eqDeal _ _ n1 n1 _ _ zss1 _ _ _ _ w11 (O7.out.still j11.out).rd o11.rd hm1 hl1).mono ?_; rintro e w12 ⟨rfl, e12⟩; have j12 := Lib.hid (j11.out.trans e12); have k12 := Lib.hid (k11.out.trans e12)) | (go_at_call 40; refine (toDeal A1 n1 c1 zss1 _ _ _ (R1.out _ dr.out) hm1 hl1).mono ?_; rintro e w11 ⟨g11, rfl, o11, f11⟩; have j11 := Lib.hid (dw.out.trans f11); have k11 := Lib.hid (dr.out.trans f11)))
  have B0 := Lib.hid (B0.out.still j12.out)
  have B1 := Lib.hid (B1.out.still j12.out)
  have X6 := Lib.hid (X6.out.still j12.out)
  have X7 := Lib.hid (X7.out.still j12.out)
  have O6 := Lib.hid (O6.out.still j12.out)
  have O7 := Lib.hid (O7.out.still j12.out)
  clear q x dr dw o11 f11 e12 j11 j12 k11 k10
  go_wp2_with fail
  go_ret
  exact ⟨rfl, HB.out _ k12.out⟩

end Go.Proofs.Yteojdlacdnfgiaa.Lib1
