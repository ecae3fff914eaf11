/- Chapter 3: the program's PermuteSuits. -/
import Derived.Test.YteojdlacdnfgiaaPermI
namespace Go.Proofs.Yteojdlacdnfgiaa.Lib1
open Go.RowKit
set_option maxRecDepth 100000

set_option maxHeartbeats 2000000 in
theorem permuteSuits (A : Option Addr) (n c : Nat) (zss : List (List Int)) (lo hi : Nat) (T : Option Addr) (m d : Nat) (to : List Int) (lo' hi' : Nat) (w : World) (h : RdR w lo hi A n zss) (ht : Rd w lo' hi' T m to) :
    Calls Try.prog 63 #[.agg #[.slice A n c], .slice T m d] w (RetDI w (permV zss to) (permE zss to)) := by
  have c4 := Lib.hid (((Chg.of_alloc w (.cells #[.slice A n c] 36) 0 0).trans (Chg.of_alloc _ (.cells #[.slice T m d] 24) 0 0)).trans (Chg.of_alloc _ (.cells #[.slice none 0 0] 36) 0 0))
  have B0 := Lib.hid (((BoxAt.new w (.slice A n c) 36 rfl).alloc (.cells #[.slice T m d] 24)).alloc (.cells #[.slice none 0 0] 36))
  have B1 := Lib.hid ((BoxAt.new (w.alloc (.cells #[.slice A n c] 36)) (.slice T m d) 24 (g := w.heap.size + 1) (by simp)).alloc (.cells #[.slice none 0 0] 36))
  have B3 := Lib.hid (BoxAt.new ((w.alloc (.cells #[.slice A n c] 36)).alloc (.cells #[.slice T m d] 24)) (.slice none 0 0) 36 (g := w.heap.size + 1 + 1) (by simp))
  have q0 := B0.out.c
  go_enter Try.func63, Try.ntmps63
  go_wp2_with fail
  generalize (((w.alloc (.cells #[.slice A n c] 36)).alloc (.cells #[.slice T m d] 24)).alloc (.cells #[.slice none 0 0] 36)) = W0 at c4 B0 B1 B3 q0
  refine (isDeal A n c zss lo hi _ (h.still c4.out)).mono ?_
  rintro e w1 ⟨rfl, c1⟩
  have k1 := Lib.hid (c4.out.trans c1)
  have D0 := B0.out.still c1
  have D1 := B1.out.still c1
  have D3 := B3.out.still c1
  clear c1 c4 B0 B1 B3 q0
  cases hd : dealB zss with
  | false =>
    have he : Hid (permE zss to = 1) := by show _ = _; simp [permE, hd]
    have hv : Hid (permV zss to = []) := by show _ = _; simp [permV, hd]
    clear hd
    have p3 := D3.c
    have f3 := D3.f
    have hret := fun u => D3.ret u
    have hcf := Lib.hid (k1.out.cell (g := w.heap.size + 1 + 1) (i := 0) (v := .slice none 0 0) (by omega))
    go_wp2_with fail
    (try simp only [Exit.inBlock, Exit.then])
    refine bodyPost_ret (v := .tuple #[.agg #[.slice none 0 0], .int .i64 1]) (by simp [results, Try.results63, go_sem, hret]; try rfl) rfl ?_
    rw [hv.out, he.out]
    exact ⟨none, 0, rfl, Nat.le_refl _, OwnR.none_, hcf.out⟩
  | true =>
    have HD := Lib.hid hd
    have p1 := D1.c
    have hso := Lib.hid (isSuitOrder T m d to lo' hi' w1 (ht.still k1.out))
    cases ho : orderB to with
    | false =>
      have he : Hid (permE zss to = 2) := by show _ = _; simp [permE, hd, ho]
      have hv : Hid (permV zss to = []) := by show _ = _; simp [permV, ho]
      have HO := Lib.hid ho
      clear hd ho
      have p3 := D3.c
      have f3 := D3.f
      have hret := fun u => D3.ret u
      have hcf := Lib.hid (k1.out.cell (g := w.heap.size + 1 + 1) (i := 0) (v := .slice none 0 0) (by omega))
      go_wp2_with fail
      refine hso.out.mono ?_
      rintro e w' ⟨rfl, rfl⟩
      rw [HO.out]
      go_wp2_with fail
      (try simp only [Exit.inBlock, Exit.then])
      refine bodyPost_ret (v := .tuple #[.agg #[.slice none 0 0], .int .i64 2]) (by simp [results, Try.results63, go_sem, hret]; try rfl) rfl ?_
      rw [hv.out, he.out]
      exact ⟨none, 0, rfl, Nat.le_refl _, OwnR.none_, hcf.out⟩
    | true =>
      have he : Hid (permE zss to = 0) := by show _ = _; simp [permE, hd, ho]
      have hv : Hid (permV zss to = mapD (newSuit to) zss) := by show _ = _; simp [permV, hd, ho, perm_mapD ((deal_iff zss).1 hd).1]
      have hl4 : Hid ((mapD (newSuit to) zss).length = 4) := by show _ = _; rw [mapD_length]; exact ((deal_iff zss).1 hd).1
      have HO := Lib.hid ho
      have hm4 : m = 4 := by rw [← ht.1]; exact (order_range ho).1
      subst hm4
      have hec := enters_of Try.func103 (by kernel_rfl) rfl
      clear hd ho
      have p0 := D0.c
      have Q0 := Lib.hid D0
      have Q1 := Lib.hid D1
      have Q3 := Lib.hid D3
      clear D0 D1 D3
      have hinj := Lib.hid (newSuit_inj HO.out)
      have hont := Lib.hid (newSuit_onto HO.out)
      have dr := Lib.hid (Chg.drewN w1 1 0 0)
      have z3 := Lib.hid Q3.out.lt
      go_wp2_with fail
      refine hso.out.mono ?_
      rintro e w' ⟨rfl, rfl⟩
      rw [HO.out]
      go_wp2_with fail
      go_region_law (first | (go_simp; go_at_call 108; refine (replaceCards _ _ _).mono ?_; rintro e w4 ⟨rfl, r1, r2, cr⟩; have c34 := Lib.hid (dr.out.trans cr); have p04 := (Q0.out.still c34.out).c; have p04a := fun o => box_still p04 (Chg.of_alloc w4 o 0 0)) | (go_simp; go_at_call 107; refine (applyRepl hec A n c zss lo hi _ w4 ((h.still k1.out).still c34.out) HD.out hinj.out hont.out r1 r2 (permute_fn _ d T to lo' hi' w4 (Q1.out.still c34.out).c ((ht.still k1.out).still c34.out) HO.out)).mono ?_; rintro e w5 ⟨A3, c3, rfl, hc3, o3, ch3⟩; have p35 := ((Q3.out.still c34.out).still ch3).c; have f35 := ((Q3.out.still c34.out).still ch3).f))
      all_goals
        have Q35 := (Q3.out.still c34.out).still ch3
        have hret := fun u => Q35.ret u
        have k5 := Lib.hid ((k1.out.trans c34.out).trans ch3)
        have hcf := Lib.hid (k5.out.cell (g := w.heap.size + 1 + 1) (i := 0) (v := .slice A3 4 c3) (by omega))
        have hst : Hid (Chg w5 (w5.setCell ⟨w.heap.size + 1 + 1, 0, none⟩ (.slice A3 4 c3)) (w.heap.size + 1 + 1) (w.heap.size + 3)) := (Chg.refl _ _ _).store (Nat.le_refl _) (by show w.heap.size + 1 + 1 < w.heap.size + 3; omega) _
        have HO3 := Lib.hid o3
        clear o3 ch3 p35 f35 Q35
        (try go_wp2_with fail)
        (try simp only [Exit.inBlock, Exit.then])
        refine bodyPost_ret (v := .tuple #[.agg #[.slice A3 4 c3], .int .i64 0]) (by simp [results, Try.results63, go_sem, hret]; try rfl) rfl ?_
        have z4 := c34.out.size
        have z3' := z3.out
        refine ⟨A3, c3, by rw [hv.out, he.out, hl4.out], by rw [hv.out, hl4.out]; exact hc3, ?_, hcf.out⟩
        rw [hv.out, hl4.out]
        exact (HO3.out.chg hst.out (.inr (by omega))).more (by omega) hst.out.size

end Go.Proofs.Yteojdlacdnfgiaa.Lib1
