/- Chapter 3: turnOnce as a symmetry; the library's Repeat of one function value. -/
import Derived.Test.YteglffbeldlibaaTurnI
import Derived.Test.YteglffbeldlibaaShelfM
import Derived.Laws.CopyOwn
namespace Go.Proofs.Yteglffbeldlibaa.Lib1
open Go.RowKit
set_option maxRecDepth 100000

def pTurn (j : Nat) : Nat := if j = 0 then 3 else j - 1
set_option maxHeartbeats 1000000 in
theorem turnOnce_sym (w : World) : Sym 101 #[] (rotTo · 1 4) w := by
  intro b c zss base W hb hb1 hb2 _ ho hc hc2
  obtain ⟨B, C, hcell, l1, l2, hz, h2, h3⟩ := hand_cells ho
  have k0 := hcell 0 (by omega)
  have k1 := hcell 1 (by omega)
  have k2 := hcell 2 (by omega)
  have k3 := hcell 3 (by omega)
  have hfin : Hid (∀ w' g cs, Chg W w' 0 0 → W.heap.size ≤ g → w'.heap[g]? = some (.cells cs 27 (0, 0)) → cs.toList.take (4 * 1) = [.slice (B 3) (zss.getD 3 []).length (C 3), .slice (B 0) (zss.getD 0 []).length (C 0), .slice (B 1) (zss.getD 1 []).length (C 1), .slice (B 2) (zss.getD 2 []).length (C 2)] → OwnR w' base w'.heap.size (some ⟨g, 0, none⟩) 4 (rotTo zss 1 4)) := by
    intro w' g cs c' hg1 hg hcs
    obtain ⟨za, zb, zc, zd, rfl⟩ := four_rows hz
    refine OwnR.reorder h2 h3 c' hg hg1 (by omega) pTurn ?_ ?_ ?_ rfl ?_
    · intro j hj; unfold pTurn; split <;> omega
    · intro i j hi hj; unfold pTurn; repeat' split
      all_goals omega
    · intro j hj
      have e : (cs.toList.take (4 * 1))[j]? = cs[j]? := by rw [List.getElem?_take_of_lt (by omega), Array.getElem?_toList]
      rw [← e, hcs]
      have hq : j = 0 ∨ j = 1 ∨ j = 2 ∨ j = 3 := by omega
      rcases hq with rfl | rfl | rfl | rfl <;> rfl
    · intro j hj
      have hq : j = 0 ∨ j = 1 ∨ j = 2 ∨ j = 3 := by omega
      rcases hq with rfl | rfl | rfl | rfl <;> rfl
  generalize (zss.getD 0 []).length = n0 at k0 hfin
  generalize (zss.getD 1 []).length = n1 at k1 hfin
  generalize (zss.getD 2 []).length = n2 at k2 hfin
  generalize (zss.getD 3 []).length = n3 at k3 hfin
  clear h2 h3 hcell ho
  have hc3 : (3 : Int) ≤ (c : Int) := by omega
  have hcne : ¬ (c = 3) := by omega
  have hc2' : c ≤ 9223372036854775807 := by unfold maxLen at hc2; exact hc2
  have hW : Chg W (W.alloc (.cells #[.slice (some ⟨b, 3, none⟩) 1 (c - 3), .slice (some ⟨b, 0, none⟩) 3 c] 24)).drew 0 0 := (Chg.of_alloc W (.cells #[.slice (some ⟨b, 3, none⟩) 1 (c - 3), .slice (some ⟨b, 0, none⟩) 3 c] 24) 0 0).trans (Chg.drewN _ 1 0 0)
  have hG : (W.alloc (.cells #[.slice (some ⟨b, 3, none⟩) 1 (c - 3), .slice (some ⟨b, 0, none⟩) 3 c] 24)).drew.heap[W.heap.size]? = some (.cells #[.slice (some ⟨b, 3, none⟩) 1 (c - 3), .slice (some ⟨b, 0, none⟩) 3 c] 24 (0, 0)) := heap_alloc_new W (.cells #[.slice (some ⟨b, 3, none⟩) 1 (c - 3), .slice (some ⟨b, 0, none⟩) 3 c] 24)
  have HN := Lib.hid (ConcatR W.heap.size b (c - 3) c (.slice (B 0) n0 (C 0)) (.slice (B 1) n1 (C 1)) (.slice (B 2) n2 (C 2)) (.slice (B 3) n3 (C 3)) (W.alloc (.cells #[.slice (some ⟨b, 3, none⟩) 1 (c - 3), .slice (some ⟨b, 0, none⟩) 3 c] 24)).drew (by rw [cell_of_row _ _ _ _ _ _ hG]; rfl) (by rw [cell_of_row _ _ _ _ _ _ hG]; rfl) (box_still k0 hW) (box_still k1 hW) (box_still k2 hW) (box_still k3 hW) rfl rfl rfl rfl)
  clear k0 k1 k2 k3 hW hG
  go_enter Try.func101, Try.ntmps101
  go_wp2
  go_region_law (go_simp; go_at_call 138; refine HN.out.mono ?_; rintro e w2 ⟨v, rfl, o2, b2⟩)
  all_goals
    have ca := (Chg.of_alloc W (.cells #[.slice (some ⟨b, 3, none⟩) 1 (c - 3), .slice (some ⟨b, 0, none⟩) 3 c] 24) 0 0).trans (Chg.drewN _ 1 0 0)
    (try go_wp2_with fail)
    go_ret
    rcases o2.2 with ⟨_, h0⟩ | ⟨g, cap, cur, rfl, hg, hh, q1, q2, _, ht⟩
    · simp at h0
    · have c2 := ca.trans (Chg.of_below b2 0 0)
      exact ⟨g, cap, rfl, q1, q2, hfin.out _ g cur c2 (by have := ca.size; exact Nat.le_trans this hg) hh ht, c2⟩

theorem iter_rot {zss : List (List Int)} (h : zss.length = 4) {k : Nat} (hk : k ≤ 3) : iterN (rotTo · 1 4) k zss = rotTo zss (k : Int) 4 := by
  obtain ⟨a, b, c, d, rfl⟩ := four_rows h
  have hq : k = 0 ∨ k = 1 ∨ k = 2 ∨ k = 3 := by omega
  rcases hq with rfl | rfl | rfl | rfl <;> rfl

/-! ### Repeat -/
theorem syms_info : (Try.prog.info? 127).map (fun i => (i.zero, i.size, i.bytes)) = some (some .nilFunc, 1, 8) := by kernel_rfl
theorem syms_size : (Try.prog.info? 127).map (·.size) = some 1 := by kernel_rfl
theorem mul_one_ (k : Nat) (hk : k ≤ 1000) (W : World) : Calls Try.prog 137 #[.int .u64 1, .int .u64 (k : Int)] W fun e w' => e = .returned (.tuple #[.int .u64 0, .int .u64 (k : Int)]) ∧ W = w' := by
  have h := Try.bits_Mul 1 k (by omega) (by omega) W
  rw [Nat.one_mul, Nat.div_eq_of_lt (by omega), Nat.mod_eq_of_lt (by omega)] at h
  exact h.mono fun e w' ⟨h1, h2⟩ => ⟨h1, h2.symm⟩
theorem made0 : madeCells #[Value.nilFunc] 0 = ([] : List Value).toArray := by kernel_rfl
theorem made1 : madeCells #[Value.nilFunc] 1 = ([.nilFunc] : List Value).toArray := by kernel_rfl
theorem made2 : madeCells #[Value.nilFunc] 2 = ([.nilFunc, .nilFunc] : List Value).toArray := by kernel_rfl
theorem made3 : madeCells #[Value.nilFunc] 3 = ([.nilFunc, .nilFunc, .nilFunc] : List Value).toArray := by kernel_rfl
def RetF (w : World) (F : Value) (k : Nat) (e : Ending) (w' : World) : Prop := ∃ g, e = .returned (.slice (some ⟨g, 0, none⟩) k k) ∧ (∀ j, j < k → w'.cell? ⟨g, 0 + j, none⟩ = some F) ∧ Chg w w' 0 0
set_option maxHeartbeats 1000000 in
theorem repeat0 (g : Nat) (F : Value) (w : World) : Calls Try.prog 100 #[.slice (some ⟨g, 0, none⟩) 1 1, .int .i64 0] w (RetF w F 0) := by
  have hmk : ∀ W, (Instr.makeSlice 124 (.int .i64 0) (.int .i64 0)).run Try.prog W = .ok (.slice (some ⟨W.heap.size, 0, none⟩) 0 0) (W.alloc (.cells (([] : List Value).toArray) 127)) := fun W => by
    have h := run_make_row' (P := Try.prog) 124 127 .nilFunc 8 Try.underlying124 syms_info rfl .i64 .i64 0 (by decide) (by decide) W
    rw [made0] at h
    exact h
  have hM := Lib.hid (mul_one_ 0 (by omega))
  have hb0 := Lib.hid ((Below.refl w.heap.size w).alloc (Nat.le_refl _) (.cells (([] : List Value).toArray) 127))
  go_enter Try.func100, Try.ntmps100
  go_wp2_with fail
  refine (hM.out _).mono ?_
  rintro e w' ⟨rfl, rfl⟩
  have hcp := run_copy_none (P := Try.prog) (w.alloc (.cells (([] : List Value).toArray) 127)) 124 124 3 127 (some ⟨w.heap.size, 0, none⟩) (some ⟨g, 0, none⟩) 0 0 1 1 Try.underlying124 syms_size rfl
  go_wp2_with fail
  go_loop [8] (fun i => i = .int .i64 0) (fun _ => 0)
  case atStart => rfl
  case round =>
    subst hrel
    go_wp2
    go_ret
    exact ⟨_, rfl, fun j hj => by omega, Chg.of_below hb0.out 0 0⟩
set_option maxHeartbeats 1000000 in
theorem repeat1 (g : Nat) (F : Value) (w : World) (hF : w.cell? ⟨g, 0, none⟩ = some F) (h1 : F.oneCell' = true) : Calls Try.prog 100 #[.slice (some ⟨g, 0, none⟩) 1 1, .int .i64 1] w (RetF w F 1) := by
  have hmk : ∀ W, (Instr.makeSlice 124 (.int .i64 1) (.int .i64 1)).run Try.prog W = .ok (.slice (some ⟨W.heap.size, 0, none⟩) 1 1) (W.alloc (.cells (([.nilFunc] : List Value).toArray) 127)) := fun W => by
    have h := run_make_row' (P := Try.prog) 124 127 .nilFunc 8 Try.underlying124 syms_info rfl .i64 .i64 1 (by decide) (by decide) W
    rw [made1] at h
    exact h
  have hM := Lib.hid (mul_one_ 1 (by omega))
  have hg0 := Lib.hid (heap_alloc_new w (.cells (([.nilFunc] : List Value).toArray) 127))
  have hb0 := Lib.hid ((Below.refl w.heap.size w).alloc (Nat.le_refl _) (.cells (([.nilFunc] : List Value).toArray) 127))
  have hF0 := Lib.hid (box_still hF (Chg.of_alloc w (.cells (([.nilFunc] : List Value).toArray) 127) 0 0))
  go_enter Try.func100, Try.ntmps100
  go_wp2_with fail
  refine (hM.out _).mono ?_
  rintro e w' ⟨rfl, rfl⟩
  have hcp : ∀ ty, (Builtin.copy_ #[124, 124] ty #[.slice (some ⟨w.heap.size, 0, none⟩) 1 1, .slice (some ⟨g, 0, none⟩) 1 1]).run Try.prog (w.alloc (.cells (([.nilFunc] : List Value).toArray) 127)) = .ok (.int .i64 1) ((w.alloc (.cells (([.nilFunc] : List Value).toArray) 127)).setRow w.heap.size (([F] : List Value).toArray)) := fun ty => run_copy_row (P := Try.prog) _ 124 124 ty 127 w.heap.size 0 1 1 ⟨g, 0, none⟩ 1 1 _ 127 [F] Try.underlying124 syms_size hg0.out rfl (fun j v hj => by { match j, hj with | 0, hj => (simp at hj; subst hj; exact hF0.out) }) (by simp) (by simp [h1])
  have hg2 : Hid (((w.alloc (.cells (([.nilFunc] : List Value).toArray) 127)).setRow w.heap.size (([F] : List Value).toArray)).heap[w.heap.size]? = some (.cells (([F] : List Value).toArray) 127 (0, 0))) := setRow_heap _ _ _ _ _ _ hg0.out
  have hb2 := Lib.hid (below_setRow hb0.out (Nat.le_refl _) (([F] : List Value).toArray))
  go_wp2_with fail
  generalize (w.alloc (.cells (([.nilFunc] : List Value).toArray) 127)).setRow w.heap.size (([F] : List Value).toArray) = w2 at hg2 hb2
  go_loopw [8] (fun i wr => (i = .int .i64 1 ∧ Hid (wr.heap[w.heap.size]? = some (.cells (([F] : List Value).toArray) 127 (0, 0))) ∧ Below w.heap.size w wr)) (fun i _ => 1 - (intOf i).toNat)
  case atStart => exact ⟨rfl, hg2, hb2.out⟩
  case round =>
    obtain ⟨rfl, hg, hb⟩ := hrel
    go_wp2
    go_ret
    exact ⟨_, rfl, fun j hj => by { rw [cell_of_row _ _ _ _ _ _ hg.out]; match j, hj with | 0, _ => rfl }, Chg.of_below hb 0 0⟩
set_option maxHeartbeats 1000000 in
theorem repeat2 (g : Nat) (F : Value) (w : World) (hF : w.cell? ⟨g, 0, none⟩ = some F) (h1 : F.oneCell' = true) : Calls Try.prog 100 #[.slice (some ⟨g, 0, none⟩) 1 1, .int .i64 2] w (RetF w F 2) := by
  have hmk : ∀ W, (Instr.makeSlice 124 (.int .i64 2) (.int .i64 2)).run Try.prog W = .ok (.slice (some ⟨W.heap.size, 0, none⟩) 2 2) (W.alloc (.cells (([.nilFunc, .nilFunc] : List Value).toArray) 127)) := fun W => by
    have h := run_make_row' (P := Try.prog) 124 127 .nilFunc 8 Try.underlying124 syms_info rfl .i64 .i64 2 (by decide) (by decide) W
    rw [made2] at h
    exact h
  have hM := Lib.hid (mul_one_ 2 (by omega))
  have hg0 := Lib.hid (heap_alloc_new w (.cells (([.nilFunc, .nilFunc] : List Value).toArray) 127))
  have hb0 := Lib.hid ((Below.refl w.heap.size w).alloc (Nat.le_refl _) (.cells (([.nilFunc, .nilFunc] : List Value).toArray) 127))
  have hF0 := Lib.hid (box_still hF (Chg.of_alloc w (.cells (([.nilFunc, .nilFunc] : List Value).toArray) 127) 0 0))
  go_enter Try.func100, Try.ntmps100
  go_wp2_with fail
  refine (hM.out _).mono ?_
  rintro e w' ⟨rfl, rfl⟩
  have hcp : ∀ ty, (Builtin.copy_ #[124, 124] ty #[.slice (some ⟨w.heap.size, 0, none⟩) 2 2, .slice (some ⟨g, 0, none⟩) 1 1]).run Try.prog (w.alloc (.cells (([.nilFunc, .nilFunc] : List Value).toArray) 127)) = .ok (.int .i64 1) ((w.alloc (.cells (([.nilFunc, .nilFunc] : List Value).toArray) 127)).setRow w.heap.size (([F, .nilFunc] : List Value).toArray)) := fun ty => run_copy_row (P := Try.prog) _ 124 124 ty 127 w.heap.size 0 2 2 ⟨g, 0, none⟩ 1 1 _ 127 [F] Try.underlying124 syms_size hg0.out rfl (fun j v hj => by { match j, hj with | 0, hj => (simp at hj; subst hj; exact hF0.out) }) (by simp) (by simp [h1])
  have hg2 : Hid (((w.alloc (.cells (([.nilFunc, .nilFunc] : List Value).toArray) 127)).setRow w.heap.size (([F, .nilFunc] : List Value).toArray)).heap[w.heap.size]? = some (.cells (([F, .nilFunc] : List Value).toArray) 127 (0, 0))) := setRow_heap _ _ _ _ _ _ hg0.out
  have hb2 := Lib.hid (below_setRow hb0.out (Nat.le_refl _) (([F, .nilFunc] : List Value).toArray))
  go_wp2_with fail
  generalize (w.alloc (.cells (([.nilFunc, .nilFunc] : List Value).toArray) 127)).setRow w.heap.size (([F, .nilFunc] : List Value).toArray) = w2 at hg2 hb2
  go_loopw [8] (fun i wr => (i = .int .i64 1 ∧ Hid (wr.heap[w.heap.size]? = some (.cells (([F, .nilFunc] : List Value).toArray) 127 (0, 0))) ∧ Below w.heap.size w wr) ∨ (i = .int .i64 2 ∧ Hid (wr.heap[w.heap.size]? = some (.cells (([F, F] : List Value).toArray) 127 (0, 0))) ∧ Below w.heap.size w wr)) (fun i _ => 2 - (intOf i).toNat)
  case atStart => exact .inl ⟨rfl, hg2, hb2.out⟩
  case round =>
    rcases hrel with ⟨rfl, hg, hb⟩ | ⟨rfl, hg, hb⟩
    · have hc0 : wr.cell? ⟨w.heap.size, 0, none⟩ = some F := by rw [cell_of_row _ _ _ _ _ _ hg.out]; rfl
      have hcp : ∀ ty, (Builtin.copy_ #[124, 124] ty #[.slice (some ⟨w.heap.size, 1, none⟩) 1 1, .slice (some ⟨w.heap.size, 0, none⟩) 1 2]).run Try.prog wr.drew = .ok (.int .i64 1) (wr.drew.setRow w.heap.size (([F, F] : List Value).toArray)) := fun ty => run_copy_row (P := Try.prog) wr.drew 124 124 ty 127 w.heap.size 1 1 1 ⟨w.heap.size, 0, none⟩ 1 2 _ 127 [F] Try.underlying124 syms_size hg.out rfl (fun j v hj => by { match j, hj with | 0, hj => (simp at hj; subst hj; exact hc0) }) (by simp) (by simp [h1])
      have hg4 : Hid ((wr.drew.setRow w.heap.size (([F, F] : List Value).toArray)).heap[w.heap.size]? = some (.cells (([F, F] : List Value).toArray) 127 (0, 0))) := setRow_heap _ _ _ _ _ _ (show wr.drew.heap[w.heap.size]? = _ from hg.out)
      have hb4 := Lib.hid (below_setRow (hb.trans (Below.refl _ wr).drew) (Nat.le_refl _) (([F, F] : List Value).toArray))
      go_wp2
      go_region
      generalize wr.drew.setRow w.heap.size (([F, F] : List Value).toArray) = w4 at hg4 hb4
      (try go_wp2)
      go_roundw
      case rel => exact .inr ⟨rfl, hg4, hb4.out⟩
      case measure => simp [intOf]
    · go_wp2
      go_ret
      exact ⟨_, rfl, fun j hj => by { rw [cell_of_row _ _ _ _ _ _ hg.out]; match j, hj with | 0, _ => rfl | 1, _ => rfl }, Chg.of_below hb 0 0⟩
set_option maxHeartbeats 1000000 in
theorem repeat3 (g : Nat) (F : Value) (w : World) (hF : w.cell? ⟨g, 0, none⟩ = some F) (h1 : F.oneCell' = true) : Calls Try.prog 100 #[.slice (some ⟨g, 0, none⟩) 1 1, .int .i64 3] w (RetF w F 3) := by
  have hmk : ∀ W, (Instr.makeSlice 124 (.int .i64 3) (.int .i64 3)).run Try.prog W = .ok (.slice (some ⟨W.heap.size, 0, none⟩) 3 3) (W.alloc (.cells (([.nilFunc, .nilFunc, .nilFunc] : List Value).toArray) 127)) := fun W => by
    have h := run_make_row' (P := Try.prog) 124 127 .nilFunc 8 Try.underlying124 syms_info rfl .i64 .i64 3 (by decide) (by decide) W
    rw [made3] at h
    exact h
  have hM := Lib.hid (mul_one_ 3 (by omega))
  have hg0 := Lib.hid (heap_alloc_new w (.cells (([.nilFunc, .nilFunc, .nilFunc] : List Value).toArray) 127))
  have hb0 := Lib.hid ((Below.refl w.heap.size w).alloc (Nat.le_refl _) (.cells (([.nilFunc, .nilFunc, .nilFunc] : List Value).toArray) 127))
  have hF0 := Lib.hid (box_still hF (Chg.of_alloc w (.cells (([.nilFunc, .nilFunc, .nilFunc] : List Value).toArray) 127) 0 0))
  go_enter Try.func100, Try.ntmps100
  go_wp2_with fail
  refine (hM.out _).mono ?_
  rintro e w' ⟨rfl, rfl⟩
  have hcp : ∀ ty, (Builtin.copy_ #[124, 124] ty #[.slice (some ⟨w.heap.size, 0, none⟩) 3 3, .slice (some ⟨g, 0, none⟩) 1 1]).run Try.prog (w.alloc (.cells (([.nilFunc, .nilFunc, .nilFunc] : List Value).toArray) 127)) = .ok (.int .i64 1) ((w.alloc (.cells (([.nilFunc, .nilFunc, .nilFunc] : List Value).toArray) 127)).setRow w.heap.size (([F, .nilFunc, .nilFunc] : List Value).toArray)) := fun ty => run_copy_row (P := Try.prog) _ 124 124 ty 127 w.heap.size 0 3 3 ⟨g, 0, none⟩ 1 1 _ 127 [F] Try.underlying124 syms_size hg0.out rfl (fun j v hj => by { match j, hj with | 0, hj => (simp at hj; subst hj; exact hF0.out) }) (by simp) (by simp [h1])
  have hg2 : Hid (((w.alloc (.cells (([.nilFunc, .nilFunc, .nilFunc] : List Value).toArray) 127)).setRow w.heap.size (([F, .nilFunc, .nilFunc] : List Value).toArray)).heap[w.heap.size]? = some (.cells (([F, .nilFunc, .nilFunc] : List Value).toArray) 127 (0, 0))) := setRow_heap _ _ _ _ _ _ hg0.out
  have hb2 := Lib.hid (below_setRow hb0.out (Nat.le_refl _) (([F, .nilFunc, .nilFunc] : List Value).toArray))
  go_wp2_with fail
  generalize (w.alloc (.cells (([.nilFunc, .nilFunc, .nilFunc] : List Value).toArray) 127)).setRow w.heap.size (([F, .nilFunc, .nilFunc] : List Value).toArray) = w2 at hg2 hb2
  go_loopw [8] (fun i wr => (i = .int .i64 1 ∧ Hid (wr.heap[w.heap.size]? = some (.cells (([F, .nilFunc, .nilFunc] : List Value).toArray) 127 (0, 0))) ∧ Below w.heap.size w wr) ∨ (i = .int .i64 2 ∧ Hid (wr.heap[w.heap.size]? = some (.cells (([F, F, .nilFunc] : List Value).toArray) 127 (0, 0))) ∧ Below w.heap.size w wr) ∨ (i = .int .i64 3 ∧ Hid (wr.heap[w.heap.size]? = some (.cells (([F, F, F] : List Value).toArray) 127 (0, 0))) ∧ Below w.heap.size w wr)) (fun i _ => 3 - (intOf i).toNat)
  case atStart => exact .inl ⟨rfl, hg2, hb2.out⟩
  case round =>
    rcases hrel with ⟨rfl, hg, hb⟩ | ⟨rfl, hg, hb⟩ | ⟨rfl, hg, hb⟩
    · have hc0 : wr.cell? ⟨w.heap.size, 0, none⟩ = some F := by rw [cell_of_row _ _ _ _ _ _ hg.out]; rfl
      have hcp : ∀ ty, (Builtin.copy_ #[124, 124] ty #[.slice (some ⟨w.heap.size, 1, none⟩) 2 2, .slice (some ⟨w.heap.size, 0, none⟩) 1 3]).run Try.prog wr.drew = .ok (.int .i64 1) (wr.drew.setRow w.heap.size (([F, F, .nilFunc] : List Value).toArray)) := fun ty => run_copy_row (P := Try.prog) wr.drew 124 124 ty 127 w.heap.size 1 2 2 ⟨w.heap.size, 0, none⟩ 1 3 _ 127 [F] Try.underlying124 syms_size hg.out rfl (fun j v hj => by { match j, hj with | 0, hj => (simp at hj; subst hj; exact hc0) }) (by simp) (by simp [h1])
      have hg4 : Hid ((wr.drew.setRow w.heap.size (([F, F, .nilFunc] : List Value).toArray)).heap[w.heap.size]? = some (.cells (([F, F, .nilFunc] : List Value).toArray) 127 (0, 0))) := setRow_heap _ _ _ _ _ _ (show wr.drew.heap[w.heap.size]? = _ from hg.out)
      have hb4 := Lib.hid (below_setRow (hb.trans (Below.refl _ wr).drew) (Nat.le_refl _) (([F, F, .nilFunc] : List Value).toArray))
      go_wp2
      go_region
      generalize wr.drew.setRow w.heap.size (([F, F, .nilFunc] : List Value).toArray) = w4 at hg4 hb4
      (try go_wp2)
      go_roundw
      case rel => exact .inr (.inl ⟨rfl, hg4, hb4.out⟩)
      case measure => simp [intOf]
    · have hc0 : wr.cell? ⟨w.heap.size, 0, none⟩ = some F := by rw [cell_of_row _ _ _ _ _ _ hg.out]; rfl
      have hcp : ∀ ty, (Builtin.copy_ #[124, 124] ty #[.slice (some ⟨w.heap.size, 2, none⟩) 1 1, .slice (some ⟨w.heap.size, 0, none⟩) 2 3]).run Try.prog wr.drew = .ok (.int .i64 1) (wr.drew.setRow w.heap.size (([F, F, F] : List Value).toArray)) := fun ty => run_copy_row (P := Try.prog) wr.drew 124 124 ty 127 w.heap.size 2 1 1 ⟨w.heap.size, 0, none⟩ 2 3 _ 127 [F] Try.underlying124 syms_size hg.out rfl (fun j v hj => by { match j, hj with | 0, hj => (simp at hj; subst hj; exact hc0) }) (by simp) (by simp [h1])
      have hg4 : Hid ((wr.drew.setRow w.heap.size (([F, F, F] : List Value).toArray)).heap[w.heap.size]? = some (.cells (([F, F, F] : List Value).toArray) 127 (0, 0))) := setRow_heap _ _ _ _ _ _ (show wr.drew.heap[w.heap.size]? = _ from hg.out)
      have hb4 := Lib.hid (below_setRow (hb.trans (Below.refl _ wr).drew) (Nat.le_refl _) (([F, F, F] : List Value).toArray))
      go_wp2
      go_region
      generalize wr.drew.setRow w.heap.size (([F, F, F] : List Value).toArray) = w4 at hg4 hb4
      (try go_wp2)
      go_roundw
      case rel => exact .inr (.inr ⟨rfl, hg4, hb4.out⟩)
      case measure => simp [intOf]
    · go_wp2
      go_ret
      exact ⟨_, rfl, fun j hj => by { rw [cell_of_row _ _ _ _ _ _ hg.out]; match j, hj with | 0, _ => rfl | 1, _ => rfl | 2, _ => rfl }, Chg.of_below hb 0 0⟩
theorem repeatF (g : Nat) (F : Value) (k : Nat) (hk : k ≤ 3) (w : World) (hF : w.cell? ⟨g, 0, none⟩ = some F) (h1 : F.oneCell' = true) : Calls Try.prog 100 #[.slice (some ⟨g, 0, none⟩) 1 1, .int .i64 (k : Int)] w (RetF w F k) := by
  have hq : k = 0 ∨ k = 1 ∨ k = 2 ∨ k = 3 := by omega
  rcases hq with rfl | rfl | rfl | rfl
  · exact repeat0 g F w
  · exact repeat1 g F w hF h1
  · exact repeat2 g F w hF h1
  · exact repeat3 g F w hF h1

set_option maxHeartbeats 2000000 in
theorem rotateDeal (A : Option Addr) (n c : Nat) (k : Int) (zss : List (List Int)) (lo hi : Nat) (w : World) (h : RdR w lo hi A n zss) :
    Calls Try.prog 39 #[.agg #[.slice A n c], .int .i64 k] w (RetDI w (rotV zss k) (rotE zss k)) := by
  have c2 := Lib.hid ((Chg.of_alloc w (.cells #[.slice A n c] 26) 0 0).trans (Chg.of_alloc _ (.cells #[.slice none 0 0] 26) 0 0))
  have hbx := Lib.hid (Box2.start w (.slice A n c) (.slice none 0 0))
  have hbc := hbx.out.c0
  go_enter Try.func39, Try.ntmps39
  go_wp2_with fail
  generalize ((w.alloc (.cells #[.slice A n c] 26)).alloc (.cells #[.slice none 0 0] 26)) = W0 at c2 hbx hbc
  refine (isDeal A n c zss lo hi _ (h.still c2.out)).mono ?_
  rintro e w1 ⟨rfl, c1⟩
  have hb1 := hbx.out.still c1
  have k1 := Lib.hid (c2.out.trans c1)
  clear c1 hbc hbx c2
  cases hd : dealB zss with
  | false =>
    have he : Hid (rotE zss k = 1) := by show _ = _; simp [rotE, hd]
    have hv : Hid (rotV zss k = []) := by show _ = _; simp [rotV, hd]
    clear hd
    have p1 := hb1.c1
    have f1 := hb1.f1
    have hret := fun u => hb1.ret u
    have hcf := Lib.hid (k1.out.cell (g := w.heap.size + 1) (i := 0) (v := .slice none 0 0) (by omega))
    go_wp2_with fail
    (try simp only [Exit.inBlock, Exit.then])
    refine bodyPost_ret (v := .tuple #[.agg #[.slice none 0 0], .int .i64 1]) (by simp [results, Try.results39, go_sem, hret]; try rfl) rfl ?_
    rw [hv.out, he.out]
    exact ⟨none, 0, rfl, Nat.le_refl _, OwnR.none_, hcf.out⟩
  | true =>
    have HD := Lib.hid hd
    by_cases hk : 0 ≤ k ∧ k ≤ 3
    · have he : Hid (rotE zss k = 0) := by show _ = _; simp [rotE, hd, inB_true hk]
      obtain ⟨hk0, hk3⟩ := hk
      obtain ⟨j, rfl⟩ : ∃ j : Nat, k = j := ⟨k.toNat, by omega⟩
      have hj : j ≤ 3 := by omega
      have h4 := Lib.hid ((deal_iff zss).1 hd).1
      have hv : Hid (rotV zss (j : Int) = iterN (rotTo · 1 4) j zss) := by show _ = _; rw [iter_rot h4.out hj, (rotV_yes hd hk0 hk3).1]
      have hl4 : Hid ((iterN (rotTo · 1 4) j zss).length = 4) := by show _ = _; rw [iter_rot h4.out hj, rotTo_length]
      have q0 : ¬ (j : Int) < 0 := by omega
      have q4 : (j : Int) < 4 := by omega
      have he2 := enters_of Try.func101 (by kernel_rfl) rfl
      have ca := Lib.hid (Chg.of_alloc w1 (.cells #[.func (.func 101) #[] #[]] 127) 0 0)
      have hcell := Lib.hid (box_at w1 (.func (.func 101) #[] #[]) 127)
      clear hd
      go_wp2_with fail
      refine (repeatF w1.heap.size _ j hj _ hcell.out rfl).mono ?_
      rintro e w2 ⟨g2, rfl, hc2, ch2⟩
      have k12 := Lib.hid (ca.out.trans ch2)
      have hb2 := hb1.still k12.out
      have k2 := Lib.hid (k1.out.trans k12.out)
      have p20 := hb2.c0
      have HC2 := Lib.hid hc2
      clear ch2 hc2 hb1 ca hcell
      go_wp2_with fail
      refine (applySym (f := 101) (caps := #[]) (g := (rotTo · 1 4)) he2 A n c zss lo hi w2 (h.still k2.out) HD.out g2 0 j j HC2.out (by omega) (fun z hz => deal_turns hz (by omega) (by omega)) (turnOnce_sym _)).mono ?_
      rintro e w3 ⟨A3, c3, rfl, hc3, o3, ch3⟩
      have hb3 := hb2.still ch3
      have p31 := hb3.c1
      have f31 := hb3.f1
      have hret := fun u => hb3.ret u
      have k3 := Lib.hid (k2.out.trans ch3)
      have z2 := Lib.hid (lt_of_block hb2.b1)
      rw [hl4.out] at hc3 o3 ⊢
      have hcf := Lib.hid (k3.out.cell (g := w.heap.size + 1) (i := 0) (v := .slice A3 4 c3) (by omega))
      have hst : Hid (Chg w3 (w3.setCell ⟨w.heap.size + 1, 0, none⟩ (.slice A3 4 c3)) (w.heap.size + 1) (w.heap.size + 2)) := (Chg.refl _ _ _).store (Nat.le_refl _) (by show w.heap.size + 1 < w.heap.size + 2; omega) _
      have HO := Lib.hid o3
      clear o3 ch3 hb3 hb2 p20
      go_wp2_with fail
      (try simp only [Exit.inBlock, Exit.then])
      refine bodyPost_ret (v := .tuple #[.agg #[.slice A3 4 c3], .int .i64 0]) (by simp [results, Try.results39, go_sem, hret]; try rfl) rfl ?_
      have := z2.out
      refine ⟨A3, c3, by rw [hv.out, he.out, hl4.out], by rw [hv.out, hl4.out]; exact hc3, ?_, hcf.out⟩
      rw [hv.out, hl4.out]
      exact (HO.out.chg hst.out (.inr (by omega))).more (by omega) hst.out.size
    · have he : Hid (rotE zss k = 2) := by show _ = _; simp [rotE, hd, inB_false hk]
      have hv : Hid (rotV zss k = []) := by show _ = _; simp [rotV, inB_false hk]
      clear hd
      have p1 := hb1.c1
      have f1 := hb1.f1
      have hret := fun u => hb1.ret u
      have hcf := Lib.hid (k1.out.cell (g := w.heap.size + 1) (i := 0) (v := .slice none 0 0) (by omega))
      by_cases hn : k < 0
      · clear hk
        go_wp2_with fail
        (try simp only [Exit.inBlock, Exit.then])
        refine bodyPost_ret (v := .tuple #[.agg #[.slice none 0 0], .int .i64 2]) (by simp [results, Try.results39, go_sem, hret]; try rfl) rfl ?_
        rw [hv.out, he.out]
        exact ⟨none, 0, rfl, Nat.le_refl _, OwnR.none_, hcf.out⟩
      · have hg : 4 ≤ k := by omega
        clear hk
        go_wp2_with fail
        (try simp only [Exit.inBlock, Exit.then])
        refine bodyPost_ret (v := .tuple #[.agg #[.slice none 0 0], .int .i64 2]) (by simp [results, Try.results39, go_sem, hret]; try rfl) rfl ?_
        rw [hv.out, he.out]
        exact ⟨none, 0, rfl, Nat.le_refl _, OwnR.none_, hcf.out⟩

end Go.Proofs.Yteglffbeldlibaa.Lib1
