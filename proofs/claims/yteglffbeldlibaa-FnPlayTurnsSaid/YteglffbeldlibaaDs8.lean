/- Chapter 8, the model: the draws of the laws. (Written by wip/gen8v.py.) -/
import Derived.Test.YteglffbeldlibaaDq8
namespace Go.Proofs.Yteglffbeldlibaa.Lib1
open Go.RowKit
set_option maxRecDepth 100000

/-- A play is drawn out of a code. -/
def DrewPl8 (w : World) (e : Ending) (w' : World) : Prop :=
  ∃ st ld A m cp us, e = .returned (.agg #[.int .i64 st, .int .i64 ld, .slice A m cp]) ∧ m ≤ 53 ∧ m ≤ cp ∧ (A = none → cp = 0) ∧ Rd w' w.heap.size w'.heap.size A m us ∧ Below w.heap.size w w'
/-- .. and a deal. -/
def DrewDP8 (w : World) (e : Ending) (w' : World) : Prop :=
  ∃ D n' c' zss st ld A m cp us, e = .returned (.tuple #[.agg #[.slice D n' c'], .agg #[.int .i64 st, .int .i64 ld, .slice A m cp]]) ∧ n' ≤ c' ∧ (∀ j, (zss.getD j []).length ≤ 15) ∧ m ≤ 53 ∧ m ≤ cp ∧ (A = none → cp = 0) ∧ RdR w' w.heap.size w'.heap.size D n' zss ∧ Rd w' w.heap.size w'.heap.size A m us ∧ Below w.heap.size w w'
set_option maxHeartbeats 1600000 in
theorem DrawIsPlainPlay (A0 : Option Addr) (n0 c0 : Nat) (w : World) (h : Bytes w A0 n0) (hn : n0 ≤ 1048576) :
    Calls Try.prog 74 #[.slice A0 n0 c0] w (DrewPl8 w) := by
  have hB := Lib.hid (h.chg (Chg.of_alloc w (.cells #[.int .i64 0, .int .i64 0, .slice none 0 0] 29) w.heap.size 0))
  have K0 : Hid (Below w.heap.size w (w.alloc (.cells #[.int .i64 0, .int .i64 0, .slice none 0 0] 29))) := (Below.refl w.heap.size w).alloc (Nat.le_refl _) _
  have Z0 := Lib.hid (SBox.new w 29 #[.int .i64 0, .int .i64 0, .slice none 0 0])
  have z0 : Hid ((w.alloc (.cells #[.int .i64 0, .int .i64 0, .slice none 0 0] 29)).heap.size = w.heap.size + 1) := by show _ = _; simp
  clear h
  go_enter Try.func74, Try.ntmps74
  go_wp2_with fail
  generalize (w.alloc (.cells #[.int .i64 0, .int .i64 0, .slice none 0 0] 29)) = W0 at hB K0 Z0 z0 ⊢
  refine (l01From A0 n0 c0 _ hB.out hn).mono ?_
  rintro e w1 ⟨rfl, s1, b1⟩
  have S1 := Lib.hid s1
  have K1 := Lib.hid (K0.out.trans (b1.mono (by have := z0.out; omega)))
  have Z1 := Lib.hid (show SBox _ _ _ _ from (b1.block w.heap.size (by have := z0.out; omega)).trans Z0.out)
  have z1 := Lib.hid (show w.heap.size + 1 ≤ w1.heap.size by have := b1.size; have := z0.out; omega)
  clear s1 b1 hB K0 Z0
  go_wp2_with fail
  refine (l08DrawAny _ _ S1.out).mono ?_
  rintro e w2 ⟨D, n', c', zss, st, ld, A, m, cp, us, rfl, _, _, hm, hcap, hnil, _, hrd, _, c2⟩
  have K2 := Lib.hid (below_draw K1.out c2 (by have := z0.out; omega) S1.out.lt)
  have Z2 := Lib.hid (show SBox _ _ _ _ from (c2.block w.heap.size (by have := z1.out; omega) (.inl (by have := z0.out; omega))).trans Z1.out)
  have z2 := Lib.hid c2.size
  obtain ⟨db, hdb⟩ : ∃ db, db = w2.heap.size := ⟨_, rfl⟩
  obtain ⟨pb, hpb⟩ : ∃ pb, pb = db + 1 := ⟨_, rfl⟩
  have hwd : w.heap.size < db := by have := z1.out; have := z2.out; omega
  have hw1 : w.heap.size + 1 ≤ w1.heap.size := z1.out
  have a3 := Chg.of_alloc w2 (.cells #[.slice none 0 0] 26) 0 0
  have a4 := Chg.of_alloc (w2.alloc (.cells #[.slice none 0 0] 26)) (.cells #[.int .i64 0, .int .i64 0, .slice none 0 0] 29) 0 0
  have HB1 := Lib.hid ((SBox.new w2 26 #[.slice none 0 0]).still a4)
  have HB2 := Lib.hid (SBox.new (w2.alloc (.cells #[.slice none 0 0] 26)) 29 #[.int .i64 0, .int .i64 0, .slice none 0 0])
  rw [← hdb] at HB1 hrd
  rw [show (w2.alloc (.cells #[.slice none 0 0] 26)).heap.size = pb by simp; omega] at HB2
  have k1 := chgr8 ((w2.alloc (.cells #[.slice none 0 0] 26)).alloc (.cells #[.int .i64 0, .int .i64 0, .slice none 0 0] 29)) db #[.slice D n' c']
  have k2 := chgr8 (((w2.alloc (.cells #[.slice none 0 0] 26)).alloc (.cells #[.int .i64 0, .int .i64 0, .slice none 0 0] 29)).setRow db #[.slice D n' c']) pb #[.int .i64 st, .int .i64 ld, .slice A m cp]
  have HB3 := Lib.hid (HB2.out.chg k1 (by omega))
  have HP := Lib.hid (show SBox _ _ _ _ from setRow_heap _ pb _ #[.int .i64 st, .int .i64 ld, .slice A m cp] _ _ HB3.out)
  have Z5 := Lib.hid (((Z2.out.still (a3.trans a4)).chg k1 (by omega)).chg k2 (by omega))
  have R5 := (((hrd.chg (a3.trans a4) (.inr (Nat.zero_le _))).chg k1 (.inl (Nat.le_refl _))).chg k2 (.inl (by omega)))
  have K5 := Lib.hid (((Chg.above K2.out (a3.trans a4) (by omega) (.inr rfl)).trans (rowB ((w2.alloc (.cells #[.slice none 0 0] 26)).alloc (.cells #[.int .i64 0, .int .i64 0, .slice none 0 0] 29)) (g := db) (by omega) #[.slice D n' c'])).trans (rowB (((w2.alloc (.cells #[.slice none 0 0] 26)).alloc (.cells #[.int .i64 0, .int .i64 0, .slice none 0 0] 29)).setRow db #[.slice D n' c']) (g := pb) (by omega) #[.int .i64 st, .int .i64 ld, .slice A m cp]))
  have hz5 : db ≤ ((((w2.alloc (.cells #[.slice none 0 0] 26)).alloc (.cells #[.int .i64 0, .int .i64 0, .slice none 0 0] 29)).setRow db #[.slice D n' c']).setRow pb #[.int .i64 st, .int .i64 ld, .slice A m cp]).heap.size := by have := HP.out.lt; omega
  have HSE := Lib.hid (setRow_heap ((((w2.alloc (.cells #[.slice none 0 0] 26)).alloc (.cells #[.int .i64 0, .int .i64 0, .slice none 0 0] 29)).setRow db #[.slice D n' c']).setRow pb #[.int .i64 st, .int .i64 ld, .slice A m cp]) w.heap.size _ #[.int .i64 st, .int .i64 ld, .slice A m cp] _ _ Z5.out)
  have KE := Lib.hid (K5.out.trans (rowB _ (Nat.le_refl w.heap.size) #[.int .i64 st, .int .i64 ld, .slice A m cp]))
  have k3 := chgr8 ((((w2.alloc (.cells #[.slice none 0 0] 26)).alloc (.cells #[.int .i64 0, .int .i64 0, .slice none 0 0] 29)).setRow db #[.slice D n' c']).setRow pb #[.int .i64 st, .int .i64 ld, .slice A m cp]) w.heap.size #[.int .i64 st, .int .i64 ld, .slice A m cp]
  have RE := Lib.hid ((R5.chg k3 (.inr (by omega))).more (show w.heap.size ≤ w1.heap.size by omega) (Nat.le_trans hz5 k3.size))
  have HDB := Lib.hid hdb
  have HPB := Lib.hid hpb
  clear hrd c2 hdb hpb hz5 k1 k2 k3 a3 a4 R5 HB2
  go_wp2_with (first | (rw [← HDB.out]; refine wpList_store_row rfl 26 _ _ rfl db #[.slice D n' c'] rfl rfl 26 #[.slice none 0 0] HB1.out (deal_info8 _) rfl (deal_cells8 _ _ _) ?_) | (rw [← HPB.out]; refine wpList_store_row rfl 29 _ _ rfl pb #[.int .i64 st, .int .i64 ld, .slice A m cp] rfl rfl 29 #[.int .i64 0, .int .i64 0, .slice none 0 0] HB3.out (play_info _ _ _ _ _) rfl (play_cells _ _ _ _ _) ?_) | (refine wpList_load_row rfl 29 _ rfl pb rfl 29 #[.int .i64 st, .int .i64 ld, .slice A m cp] (0, 0) _ HP.out Try.underlying29 rfl (play_info _ _ _ _ _) ?_) | (refine wpList_store_row rfl 29 _ _ rfl w.heap.size #[.int .i64 st, .int .i64 ld, .slice A m cp] rfl rfl 29 #[.int .i64 0, .int .i64 0, .slice none 0 0] Z5.out (play_info _ _ _ _ _) rfl (play_cells _ _ _ _ _) ?_))
  refine bodyPost_ret (v := .agg #[.int .i64 st, .int .i64 ld, .slice A m cp]) (results_cell_row Try.results74 _ _ w.heap.size 29 #[.int .i64 st, .int .i64 ld, .slice A m cp] (0, 0) _ rfl HSE.out Try.underlying29 rfl (play_info _ _ _ _ _)) rfl ?_
  exact ⟨st, ld, A, m, cp, us, rfl, hm, hcap, hnil, RE.out, KE.out⟩

set_option maxHeartbeats 1600000 in
theorem DrawTrickLeaders (A0 : Option Addr) (n0 c0 : Nat) (w : World) (h : Bytes w A0 n0) (hn : n0 ≤ 1048576) :
    Calls Try.prog 32 #[.slice A0 n0 c0] w (DrewPl8 w) := by
  have hB := Lib.hid (h.chg (Chg.of_alloc w (.cells #[.int .i64 0, .int .i64 0, .slice none 0 0] 29) w.heap.size 0))
  have K0 : Hid (Below w.heap.size w (w.alloc (.cells #[.int .i64 0, .int .i64 0, .slice none 0 0] 29))) := (Below.refl w.heap.size w).alloc (Nat.le_refl _) _
  have Z0 := Lib.hid (SBox.new w 29 #[.int .i64 0, .int .i64 0, .slice none 0 0])
  have z0 : Hid ((w.alloc (.cells #[.int .i64 0, .int .i64 0, .slice none 0 0] 29)).heap.size = w.heap.size + 1) := by show _ = _; simp
  clear h
  go_enter Try.func32, Try.ntmps32
  go_wp2_with fail
  generalize (w.alloc (.cells #[.int .i64 0, .int .i64 0, .slice none 0 0] 29)) = W0 at hB K0 Z0 z0 ⊢
  refine (DrawIsPlainPlay A0 n0 c0 _ hB.out hn).mono ?_
  rintro e w2 ⟨st, ld, A, m, cp, us, rfl, hm, hcap, hnil, hrd, b2⟩
  have hw1 : w.heap.size + 1 = W0.heap.size := z0.out.symm
  have K2 := Lib.hid (K0.out.trans (b2.mono (by omega)))
  have Z2 := Lib.hid (show SBox _ _ _ _ from (b2.block w.heap.size (by omega)).trans Z0.out)
  have HSE := Lib.hid (setRow_heap w2 w.heap.size _ #[.int .i64 st, .int .i64 ld, .slice A m cp] _ _ Z2.out)
  have KE := Lib.hid (K2.out.trans (rowB w2 (Nat.le_refl w.heap.size) #[.int .i64 st, .int .i64 ld, .slice A m cp]))
  have k3 := chgr8 w2 w.heap.size #[.int .i64 st, .int .i64 ld, .slice A m cp]
  have RE := Lib.hid ((hrd.chg k3 (.inr (by omega))).more (show w.heap.size ≤ W0.heap.size by omega) k3.size)
  clear hrd b2 k3 hB K0 Z0
  go_wp2_with (refine wpList_store_row rfl 29 _ _ rfl w.heap.size #[.int .i64 st, .int .i64 ld, .slice A m cp] rfl rfl 29 #[.int .i64 0, .int .i64 0, .slice none 0 0] Z2.out (play_info _ _ _ _ _) rfl (play_cells _ _ _ _ _) ?_)
  refine bodyPost_ret (v := .agg #[.int .i64 st, .int .i64 ld, .slice A m cp]) (results_cell_row Try.results32 _ _ w.heap.size 29 #[.int .i64 st, .int .i64 ld, .slice A m cp] (0, 0) _ rfl HSE.out Try.underlying29 rfl (play_info _ _ _ _ _)) rfl ?_
  exact ⟨st, ld, A, m, cp, us, rfl, hm, hcap, hnil, RE.out, KE.out⟩

set_option maxHeartbeats 1600000 in
theorem DrawPlayText (A0 : Option Addr) (n0 c0 : Nat) (w : World) (h : Bytes w A0 n0) (hn : n0 ≤ 1048576) :
    Calls Try.prog 26 #[.slice A0 n0 c0] w (DrewPl8 w) := by
  have hB := Lib.hid (h.chg (Chg.of_alloc w (.cells #[.int .i64 0, .int .i64 0, .slice none 0 0] 29) w.heap.size 0))
  have K0 : Hid (Below w.heap.size w (w.alloc (.cells #[.int .i64 0, .int .i64 0, .slice none 0 0] 29))) := (Below.refl w.heap.size w).alloc (Nat.le_refl _) _
  have Z0 := Lib.hid (SBox.new w 29 #[.int .i64 0, .int .i64 0, .slice none 0 0])
  have z0 : Hid ((w.alloc (.cells #[.int .i64 0, .int .i64 0, .slice none 0 0] 29)).heap.size = w.heap.size + 1) := by show _ = _; simp
  clear h
  go_enter Try.func26, Try.ntmps26
  go_wp2_with fail
  generalize (w.alloc (.cells #[.int .i64 0, .int .i64 0, .slice none 0 0] 29)) = W0 at hB K0 Z0 z0 ⊢
  refine (DrawIsPlainPlay A0 n0 c0 _ hB.out hn).mono ?_
  rintro e w2 ⟨st, ld, A, m, cp, us, rfl, hm, hcap, hnil, hrd, b2⟩
  have hw1 : w.heap.size + 1 = W0.heap.size := z0.out.symm
  have K2 := Lib.hid (K0.out.trans (b2.mono (by omega)))
  have Z2 := Lib.hid (show SBox _ _ _ _ from (b2.block w.heap.size (by omega)).trans Z0.out)
  have HSE := Lib.hid (setRow_heap w2 w.heap.size _ #[.int .i64 st, .int .i64 ld, .slice A m cp] _ _ Z2.out)
  have KE := Lib.hid (K2.out.trans (rowB w2 (Nat.le_refl w.heap.size) #[.int .i64 st, .int .i64 ld, .slice A m cp]))
  have k3 := chgr8 w2 w.heap.size #[.int .i64 st, .int .i64 ld, .slice A m cp]
  have RE := Lib.hid ((hrd.chg k3 (.inr (by omega))).more (show w.heap.size ≤ W0.heap.size by omega) k3.size)
  clear hrd b2 k3 hB K0 Z0
  go_wp2_with (refine wpList_store_row rfl 29 _ _ rfl w.heap.size #[.int .i64 st, .int .i64 ld, .slice A m cp] rfl rfl 29 #[.int .i64 0, .int .i64 0, .slice none 0 0] Z2.out (play_info _ _ _ _ _) rfl (play_cells _ _ _ _ _) ?_)
  refine bodyPost_ret (v := .agg #[.int .i64 st, .int .i64 ld, .slice A m cp]) (results_cell_row Try.results26 _ _ w.heap.size 29 #[.int .i64 st, .int .i64 ld, .slice A m cp] (0, 0) _ rfl HSE.out Try.underlying29 rfl (play_info _ _ _ _ _)) rfl ?_
  exact ⟨st, ld, A, m, cp, us, rfl, hm, hcap, hnil, RE.out, KE.out⟩

set_option maxHeartbeats 1600000 in
theorem DrawIsPlay (A0 : Option Addr) (n0 c0 : Nat) (w : World) (h : Bytes w A0 n0) (hn : n0 ≤ 1048576) :
    Calls Try.prog 36 #[.slice A0 n0 c0] w (DrewDP8 w) := by
  have e1 : (w.alloc (.cells #[.slice none 0 0] 26)).heap.size = w.heap.size + 1 := by simp
  have a1 := Chg.of_alloc w (.cells #[.slice none 0 0] 26) 0 0
  have a2 := Chg.of_alloc (w.alloc (.cells #[.slice none 0 0] 26)) (.cells #[.int .i64 0, .int .i64 0, .slice none 0 0] 29) 0 0
  have hB := Lib.hid (h.chg ((a1.trans a2).any w.heap.size 0))
  have K0 := Lib.hid (a1.trans a2).to_below
  have Z0 := Lib.hid ((SBox.new w 26 #[.slice none 0 0]).still a2)
  have Y0 := Lib.hid (SBox.new (w.alloc (.cells #[.slice none 0 0] 26)) 29 #[.int .i64 0, .int .i64 0, .slice none 0 0])
  rw [e1] at Y0
  have z0 : Hid (((w.alloc (.cells #[.slice none 0 0] 26)).alloc (.cells #[.int .i64 0, .int .i64 0, .slice none 0 0] 29)).heap.size = w.heap.size + 2) := by show _ = _; simp
  clear h a1 a2 e1
  go_enter Try.func36, Try.ntmps36
  go_wp2_with fail
  generalize ((w.alloc (.cells #[.slice none 0 0] 26)).alloc (.cells #[.int .i64 0, .int .i64 0, .slice none 0 0] 29)) = W0 at hB K0 Z0 Y0 z0 ⊢
  refine (l01From A0 n0 c0 _ hB.out hn).mono ?_
  rintro e w1 ⟨rfl, s1, b1⟩
  have hz0 := z0.out
  have S1 := Lib.hid s1
  have K1 := Lib.hid (K0.out.trans (b1.mono (by omega)))
  have Z1 := Lib.hid (show SBox _ _ _ _ from (b1.block w.heap.size (by omega)).trans Z0.out)
  have Y1 := Lib.hid (show SBox _ _ _ _ from (b1.block (w.heap.size + 1) (by omega)).trans Y0.out)
  have hw1 : w.heap.size + 2 ≤ w1.heap.size := by have := b1.size; omega
  clear s1 b1 hB K0 Z0 Y0 hz0
  go_wp2_with fail
  refine (l08DrawAny _ _ S1.out).mono ?_
  rintro e w2 ⟨D, n', c', zss, st, ld, A, m, cp, us, rfl, hnc, h15, hm, hcap, hnil, hrr, hrd, _, c2⟩
  have hz0 := z0.out
  have K2 := Lib.hid (below_draw K1.out c2 (by omega) S1.out.lt)
  have Z2 := Lib.hid (Z1.out.chg c2 (by omega))
  have Y2 := Lib.hid (Y1.out.chg c2 (by omega))
  have k1 := chgr8 w2 w.heap.size #[.slice D n' c']
  have k2 := chgr8 (w2.setRow w.heap.size #[.slice D n' c']) (w.heap.size + 1) #[.int .i64 st, .int .i64 ld, .slice A m cp]
  have N1 := Lib.hid (SBox.chg (setRow_heap w2 w.heap.size _ #[.slice D n' c'] _ _ Z2.out) k2 (by omega))
  have Y3 := Lib.hid (Y2.out.chg k1 (by omega))
  have N2 := Lib.hid (show SBox _ _ _ _ from setRow_heap _ (w.heap.size + 1) _ #[.int .i64 st, .int .i64 ld, .slice A m cp] _ _ Y3.out)
  have KE := Lib.hid ((K2.out.trans (rowB w2 (Nat.le_refl w.heap.size) #[.slice D n' c'])).trans (rowB (w2.setRow w.heap.size #[.slice D n' c']) (g := w.heap.size + 1) (by omega) #[.int .i64 st, .int .i64 ld, .slice A m cp]))
  have RE := Lib.hid (((hrd.chg k1 (.inr (by omega))).chg k2 (.inr (by omega))).more (show w.heap.size ≤ w1.heap.size by omega) (Nat.le_trans k1.size k2.size))
  have RR := Lib.hid (((hrr.chg k1 (.inr (by omega))).chg k2 (.inr (by omega))).more (show w.heap.size ≤ w1.heap.size by omega) (Nat.le_trans k1.size k2.size))
  clear hrd hrr c2 k1 k2
  go_wp2_with (first | (refine wpList_store_row rfl 26 _ _ rfl w.heap.size #[.slice D n' c'] rfl rfl 26 #[.slice none 0 0] Z2.out (deal_info8 _) rfl (deal_cells8 _ _ _) ?_) | (refine wpList_store_row rfl 29 _ _ rfl (w.heap.size + 1) #[.int .i64 st, .int .i64 ld, .slice A m cp] rfl rfl 29 #[.int .i64 0, .int .i64 0, .slice none 0 0] Y3.out (play_info _ _ _ _ _) rfl (play_cells _ _ _ _ _) ?_))
  refine bodyPost_ret (v := .tuple #[.agg #[.slice D n' c'], .agg #[.int .i64 st, .int .i64 ld, .slice A m cp]]) (results_rows8 Try.results36 _ _ w.heap.size (w.heap.size + 1) #[.slice D n' c'] #[.int .i64 st, .int .i64 ld, .slice A m cp] _ _ rfl rfl N1.out N2.out Try.underlying26 rfl (deal_info8 _) Try.underlying29 rfl (play_info _ _ _ _ _)) rfl ?_
  exact ⟨D, n', c', zss, st, ld, A, m, cp, us, rfl, hnc, h15, hm, hcap, hnil, RR.out, RE.out, KE.out⟩

end Go.Proofs.Yteglffbeldlibaa.Lib1
