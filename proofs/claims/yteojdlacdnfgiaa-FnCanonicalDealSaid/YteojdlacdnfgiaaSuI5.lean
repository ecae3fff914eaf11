/- Chapter 5: the program's SameUpToSuits. -/
import Derived.Test.YteojdlacdnfgiaaCdI5
namespace Go.Proofs.Yteojdlacdnfgiaa.Lib1
open Go.RowKit
set_option maxRecDepth 100000

theorem canE_zero {zss : List (List Int)} {strain : Int} : canE zss strain = 0 ↔ dealB zss = true ∧ inB strain 0 4 = true := by
  unfold canE
  cases dealB zss <;> cases inB strain 0 4 <;> simp
theorem sameV_no1 {zss yss : List (List Int)} {strain : Int} (h : canE zss strain ≠ 0) : sameV zss yss strain = false := by
  cases hd : dealB zss <;> cases hs : inB strain 0 4 <;> simp [sameV, hd, hs]
  exact absurd (canE_zero.2 ⟨hd, hs⟩) h
theorem sameV_no2 {zss yss : List (List Int)} {strain : Int} (h : canE yss strain ≠ 0) : sameV zss yss strain = false := by
  cases hd : dealB yss <;> cases hs : inB strain 0 4 <;> simp [sameV, hd, hs]
  exact absurd (canE_zero.2 ⟨hd, hs⟩) h
theorem sameV_yes {zss yss : List (List Int)} {strain : Int} (h : canE zss strain = 0) (h' : canE yss strain = 0) : sameV zss yss strain = decide (cmpI (canV zss strain).flatten (canV yss strain).flatten = 0) := by
  obtain ⟨hd, hs⟩ := canE_zero.1 h
  obtain ⟨hd', _⟩ := canE_zero.1 h'
  have e := same_flat hd hd' hs
  have e1 : canV zss strain = canL zss strain := by simp [canV, hd, hs]
  have e2 : canV yss strain = canL yss strain := by simp [canV, hd', hs]
  rw [e1, e2]
  simp only [sameV, hd, hd', hs, Bool.and_self, Bool.true_and]
  exact decide_eq_decide.2 (e.trans (cmpI_same _ _).symm)
theorem canV_deal {zss : List (List Int)} {strain : Int} (h : canE zss strain = 0) : dealB (canV zss strain) = true := by
  obtain ⟨hd, hs⟩ := canE_zero.1 h
  have e1 : canV zss strain = canL zss strain := by simp [canV, hd, hs]
  rw [e1]; exact can_deal hd hs

set_option maxHeartbeats 2000000 in
theorem impl_SameUpToSuits (A : Option Addr) (n c : Nat) (zss : List (List Int)) (lo hi : Nat) (A' : Option Addr) (n' c' : Nat) (yss : List (List Int)) (lo' hi' : Nat) (strain : Int) (w : World) (h : RdR w lo hi A n zss) (h' : RdR w lo' hi' A' n' yss) :
    Calls Try.prog 26 #[.agg #[.slice A n c], .agg #[.slice A' n' c'], .int .i64 strain] w fun e w' => e = .returned (.bool (sameV zss yss strain)) ∧ Chg w w' 0 0 := by
  have c2 := Lib.hid ((Chg.of_alloc w (.cells #[.slice A n c] 36) 0 0).trans (Chg.of_alloc _ (.cells #[.slice A' n' c'] 36) 0 0))
  have B0 := Lib.hid ((BoxAt.new w (.slice A n c) 36 rfl).alloc (.cells #[.slice A' n' c'] 36))
  have B1 := Lib.hid (BoxAt.new (w.alloc (.cells #[.slice A n c] 36)) (.slice A' n' c') 36 (g := w.heap.size + 1) (by simp))
  have HC := Lib.hid (fun (hx : canE zss strain = 0) => canV_deal hx)
  have HC' := Lib.hid (fun (hx : canE yss strain = 0) => canV_deal hx)
  have HN1 := Lib.hid (fun (hx : canE zss strain ≠ 0) => sameV_no1 (yss := yss) hx)
  have HN2 := Lib.hid (fun (hx : canE yss strain ≠ 0) => sameV_no2 (zss := zss) hx)
  have HY := Lib.hid (fun (hx : canE zss strain = 0) (hy : canE yss strain = 0) => sameV_yes hx hy)
  have I1 := Lib.hid (fun V (k : Chg w V 0 0) => impl_CanonicalDeal A n c strain zss lo hi V (h.still k))
  have I2 := Lib.hid (fun V (k : Chg w V 0 0) => impl_CanonicalDeal A' n' c' strain yss lo' hi' V (h'.still k))
  clear h h'
  generalize hV : canV zss strain = p at HC HY I1
  generalize hE : canE zss strain = x at HC HN1 HY I1
  generalize hV' : canV yss strain = q at HC' HY I2
  generalize hE' : canE yss strain = y at HC' HN2 HY I2
  clear hV hE hV' hE'
  generalize sameV zss yss strain = r at HN1 HN2 HY ⊢
  go_enter Try.func26, Try.ntmps26
  go_wp2_with fail
  generalize (w.alloc (.cells #[.slice A n c] 36)).alloc (.cells #[.slice A' n' c'] 36) = W0 at c2 B0 B1 ⊢
  have p0 := B0.out.c
  go_wp2_with fail
  refine (I1.out W0 c2.out).mono ?_
  rintro e w1 ⟨A1, c1, rfl, hc1, o1, ch1⟩
  have k1 := Lib.hid ((c2.out.trans ch1).trans (Chg.of_alloc w1 (.cells #[.slice A1 p.length c1] 36) 0 0))
  have E1 := Lib.hid (((B1.out.still ch1)).still (Chg.of_alloc w1 (.cells #[.slice A1 p.length c1] 36) 0 0))
  have F1 := Lib.hid (BoxAt.new w1 (.slice A1 p.length c1) 36 rfl)
  have O1 := Lib.hid (o1.still (Chg.of_alloc w1 (.cells #[.slice A1 p.length c1] 36) 0 0))
  have p1 := E1.out.c
  clear o1 ch1 p0
  go_wp2_with fail
  generalize w1.alloc (.cells #[.slice A1 p.length c1] 36) = W1 at k1 E1 F1 O1 ⊢
  refine (I2.out W1 k1.out).mono ?_
  rintro e w2 ⟨A2, c2', rfl, hc2, o2, ch2⟩
  have k2 := Lib.hid ((k1.out.trans ch2).trans (Chg.of_alloc w2 (.cells #[.slice A2 q.length c2'] 36) 0 0))
  have F2 := Lib.hid ((F1.out.still ch2).still (Chg.of_alloc w2 (.cells #[.slice A2 q.length c2'] 36) 0 0))
  have G2 := Lib.hid (BoxAt.new w2 (.slice A2 q.length c2') 36 rfl)
  have O2 := Lib.hid ((O1.out.still ch2).still (Chg.of_alloc w2 (.cells #[.slice A2 q.length c2'] 36) 0 0))
  have Q2 := Lib.hid (o2.still (Chg.of_alloc w2 (.cells #[.slice A2 q.length c2'] 36) 0 0))
  clear o2 ch2
  by_cases hx : x = 0
  · by_cases hy : y = 0
    · have hr := Lib.hid (HY.out hx hy)
      rw [show q.length = 4 from ((deal_iff _).1 (HC'.out hy)).1] at k2 F2 G2 O2 Q2 ⊢
      have hp := Lib.hid (HC.out hx)
      have hq := Lib.hid (HC'.out hy)
      have l1 : Hid (p.length = 4) := ((deal_iff _).1 hp.out).1
      subst hx
      subst hy
      rw [l1.out] at F2 O2
      have cd := Lib.hid (compareDeals A1 c1 p _ _ A2 c2' q _ _ _ O2.out.rd Q2.out.rd hp.out hq.out)
      have p1 := F2.out.c
      have p2 := G2.out.c
      generalize cmpI p.flatten q.flatten = z at hr cd
      go_wp2_with fail
      refine cd.out.mono ?_
      rintro e w3 ⟨rfl, k3⟩
      have hz : Hid ((z == 0) = r) := by show _ = _; rw [hr.out]; rfl
      go_wp2_with fail
      go_ret
      exact ⟨by rw [← hz.out]; rfl, k2.out.trans k3⟩
    · have hr := Lib.hid (HN2.out hy)
      have hy1 : (y == 0) = false := by simpa using hy
      have hy2 : (y != 0) = true := by simpa using hy
      subst hx
      clear hy
      go_wp2_with fail
      go_ret
      exact ⟨by rw [hr.out]; rfl, k2.out⟩
  · have hr := Lib.hid (HN1.out hx)
    have hx1 : (x == 0) = false := by simpa using hx
    have hx2 : (x != 0) = true := by simpa using hx
    clear hx
    go_wp2_with fail
    go_ret
    exact ⟨by rw [hr.out]; rfl, k2.out⟩

end Go.Proofs.Yteojdlacdnfgiaa.Lib1
