/- Chapter 7: the program's contract of an auction, ContractOf and IsContract. (Written by wip/gen7f.py.) -/
import Derived.Test.YtnkbcmkngghnoaaDoorPbX7
namespace Go.Proofs.YtnkbcmkngghnoaaDoor.Lib1
open Go.RowKit
set_option maxRecDepth 100000

theorem upTo_getD {cs : List Int} {n j : Nat} (h : j < n) : (upTo cs n).getD j 0 = cs.getD j 0 := by simp [upTo, List.getD, h]



theorem bid_in (l s : Int) : inB (bidV l s) 3 37 = (inB l 1 7 && inB s 0 4) := by
  by_cases h : (1 ≤ l ∧ l ≤ 7) ∧ 0 ≤ s ∧ s ≤ 4
  · rw [bidV_yes h, inB_true h.1, inB_true h.2, inB_true (by omega)]; rfl
  · rw [bidV_no h, inB_false (by omega)]
    by_cases h1 : 1 ≤ l ∧ l ≤ 7
    · rw [inB_true h1, inB_false (fun q => h ⟨h1, q⟩)]; rfl
    · rw [inB_false h1]; rfl
set_option maxHeartbeats 3200000 in
/-- The program's IsContract. -/
theorem impl_IsContract : IsConF 41 := fun l s x d w => by
  have hce : ∀ V : World, (binOp .eql 36 (.agg #[.int .i64 l, .int .i64 s, .int .i64 x, .int .i64 d]) (.agg #[.int .i64 0, .int .i64 0, .int .i64 0, .int .i64 0])).run Tryd.prog V = .ok (.bool (l == 0 && s == 0 && x == 0 && d == 0)) V := con_eq l s x d
  have C0 : Hid (Chg w (w.alloc (.cells #[.int .i64 l, .int .i64 s, .int .i64 x, .int .i64 d] 36)) 0 0) := Chg.of_alloc w (.cells (conA l s x d) 36) 0 0
  have hbx : Hid ((w.alloc (.cells #[.int .i64 l, .int .i64 s, .int .i64 x, .int .i64 d] 36)).heap[w.heap.size]? = some (.cells #[.int .i64 l, .int .i64 s, .int .i64 x, .int .i64 d] 36 (0, 0))) := heap_alloc_new w _
  have HV : Hid (isConV l s x d = ((l == 0 && s == 0 && x == 0 && d == 0) || (inB (bidV l s) 3 37 && inB x 0 2 && inB d 0 3))) := by show _ = _; unfold isConV; rw [bid_in]
  obtain ⟨V, hVV⟩ : ∃ V, V = isConV l s x d := ⟨_, rfl⟩
  rw [← hVV] at HV ⊢
  clear hVV
  generalize hz : (l == 0 && s == 0 && x == 0 && d == 0) = z at hce HV
  clear hz
  go_enter Tryd.func41, Tryd.ntmps41
  cases z
  rotate_left
  · have hr : Hid (V = true) := by show V = true; rw [HV.out]; rfl
    go_wp2_with (refine wpList_load_row rfl 36 _ rfl w.heap.size rfl 36 #[.int .i64 l, .int .i64 s, .int .i64 x, .int .i64 d] (0, 0) _ hbx.out Tryd.underlying36 rfl (con_info l s x d) ?_)
    go_ret
    exact ⟨ret_bool hr.out.symm, C0.out⟩
  · have hr : Hid (V = (inB (bidV l s) 3 37 && inB x 0 2 && inB d 0 3)) := by show V = _; rw [HV.out]; rfl
    clear HV
    go_wp2_with (refine wpList_load_row rfl 36 _ rfl w.heap.size rfl 36 #[.int .i64 l, .int .i64 s, .int .i64 x, .int .i64 d] (0, 0) _ hbx.out Tryd.underlying36 rfl (con_info l s x d) ?_)
    generalize w.alloc (.cells #[.int .i64 l, .int .i64 s, .int .i64 x, .int .i64 d] 36) = W at C0 hbx ⊢
    refine (impl_BidOf l s _).mono ?_
    rintro e w1 ⟨rfl, c1⟩
    have hb1 := (c1.block w.heap.size (lt_of_block hbx.out) (.inr (Nat.zero_le _))).trans hbx.out
    have C1 := Lib.hid (C0.out.trans c1)
    have q2 : w1.cell? ⟨w.heap.size, 2, none⟩ = some (.int .i64 x) := by rw [cell_of_row _ _ 2 _ _ _ hb1]; rfl
    have q3 : w1.cell? ⟨w.heap.size, 3, none⟩ = some (.int .i64 d) := by rw [cell_of_row _ _ 3 _ _ _ hb1]; rfl
    clear c1 hb1 hbx C0 hce
    generalize bidV l s = b at hr ⊢
    cases hb : inB b 3 37
    · have hr : Hid (V = false) := by show V = false; rw [hr.out, hb]; rfl
      go_wp2_with (go_at_call 56; refine (isBid _ _).mono ?_; rw [hb]; rintro e w' ⟨rfl, rfl⟩)
      go_ret
      exact ⟨ret_bool hr.out.symm, C1.out⟩
    · have hr : Hid (V = (inB x 0 2 && inB d 0 3)) := by show V = _; rw [hr.out, hb]; rfl
      by_cases x0 : 0 ≤ x
      · by_cases x2 : x ≤ 2
        · have hr : Hid (V = inB d 0 3) := by show V = _; rw [hr.out, inB_true ⟨x0, x2⟩]; rfl
          go_wp2_with (first | (go_at_call 56; refine (isBid _ _).mono ?_; rw [hb]; rintro e w' ⟨rfl, rfl⟩) | (go_at_call 66; refine (isSeat7 _ _).mono ?_; rintro e w' ⟨rfl, rfl⟩))
          go_ret
          exact ⟨ret_bool hr.out.symm, C1.out⟩
        · have hr : Hid (V = false) := by show V = _; rw [hr.out, inB_false (fun q => x2 q.2)]; rfl
          go_wp2_with (go_at_call 56; refine (isBid _ _).mono ?_; rw [hb]; rintro e w' ⟨rfl, rfl⟩)
          go_ret
          exact ⟨ret_bool hr.out.symm, C1.out⟩
      · have hr : Hid (V = false) := by show V = _; rw [hr.out, inB_false (fun q => x0 q.1)]; rfl
        go_wp2_with (go_at_call 56; refine (isBid _ _).mono ?_; rw [hb]; rintro e w' ⟨rfl, rfl⟩)
        go_ret
        exact ⟨ret_bool hr.out.symm, C1.out⟩
end Go.Proofs.YtnkbcmkngghnoaaDoor.Lib1
