/- Chapter 2: the program's sums over the suits, and the laws' contracts of its numbers. -/
import Derived.Test.YtklboaabcmghcaaMasks
import Derived.Shelf.Abstract
namespace Go.Proofs.Ytklboaabcmghcaa.Lib1
open Go.RowKit
set_option maxRecDepth 100000

def countRow : Array Value := #[.func (.func 82) #[] #[], .func (.func 83) #[] #[], .func (.func 84) #[] #[], .func (.func 85) #[] #[], .func (.func 86) #[] #[], .func (.func 87) #[] #[]]
theorem count_info : (Try.prog.info? 54).map (·.size) = some countRow.size := by kernel_rfl
theorem count_cells : countRow.all (·.oneCell') = true := by kernel_rfl
theorem suitCounts (w : World) : Calls Try.prog 56 #[] w fun e w' => e = .returned (.agg countRow) ∧ Chg w w' 0 0 := by
  have hg := heap_alloc_new w (.cells #[.nilFunc, .nilFunc, .nilFunc, .nilFunc, .nilFunc, .nilFunc] 54)
  have hg2 := setRow_heap _ _ _ countRow _ _ hg
  have hc := (Chg.of_alloc w (.cells #[.nilFunc, .nilFunc, .nilFunc, .nilFunc, .nilFunc, .nilFunc] 54) 0 0).row (Nat.le_refl _) countRow
  go_enter Try.func56, Try.ntmps56
  go_wp2_with (refine wpList_store_row rfl 54 _ _ rfl w.heap.size countRow rfl rfl 54 _ hg count_info rfl count_cells ?_)
  refine bodyPost_ret (v := .agg countRow) (results_cell_row Try.results56 _ _ w.heap.size 54 countRow (0, 0) _ rfl hg2 Try.underlying54 rfl count_info) rfl ?_
  exact ⟨rfl, hc⟩
theorem count_field0 (w : World) : (Instr.field 54 (.agg countRow) 0).run Try.prog w = .ok (.func (.func 82) #[] #[]) w := by kernel_rfl
theorem count_field1 (w : World) : (Instr.field 54 (.agg countRow) 1).run Try.prog w = .ok (.func (.func 83) #[] #[]) w := by kernel_rfl
theorem count_field2 (w : World) : (Instr.field 54 (.agg countRow) 2).run Try.prog w = .ok (.func (.func 84) #[] #[]) w := by kernel_rfl
theorem count_field3 (w : World) : (Instr.field 54 (.agg countRow) 3).run Try.prog w = .ok (.func (.func 85) #[] #[]) w := by kernel_rfl
theorem count_field4 (w : World) : (Instr.field 54 (.agg countRow) 4).run Try.prog w = .ok (.func (.func 86) #[] #[]) w := by kernel_rfl
theorem count_field5 (w : World) : (Instr.field 54 (.agg countRow) 5).run Try.prog w = .ok (.func (.func 87) #[] #[]) w := by kernel_rfl
/-- The sum of a count over the first k suits. -/
def sumTo (v : Nat → Int) (zs : List Int) : Nat → Int
  | 0 => 0
  | k + 1 => sumTo v zs k + v (maskN zs (k : Int))
def sumV (v : Nat → Int) (zs : List Int) : Int := if handB zs then sumTo v zs 4 else -1
theorem sumTo_range {v : Nat → Int} (hv : ∀ m, m < 8192 → 0 ≤ v m ∧ v m ≤ 100) (zs : List Int) : ∀ k : Nat, 0 ≤ sumTo v zs k ∧ sumTo v zs k ≤ 100 * k
  | 0 => by simp [sumTo]
  | k + 1 => by have := sumTo_range hv zs k; have := hv _ (maskN_lt zs (k : Int)); simp only [sumTo]; omega

set_option maxHeartbeats 1000000 in

theorem sumOverSuits {f : Nat} {v : Nat → Int} (hf : OfSuit f v) (he : ∀ args w, (callFunc f args).run Try.prog w = .ok (.enter f args) w) (hv : ∀ m, m < 8192 → 0 ≤ v m ∧ v m ≤ 100)
    (A : Option Addr) (n c : Nat) (zs : List Int) (lo hi : Nat) (w : World) (h : Rd w lo hi A n zs) :
    Calls Try.prog 55 #[.slice A n c, .func (.func f) #[] #[]] w fun e w' => e = .returned (.int .i64 (sumV v zs)) ∧ Chg w w' 0 0 := by
  unfold sumV
  cases hz : handB zs
  · go_enter Try.func55, Try.ntmps55
    go_wp2_with (go_at_call 49; refine (impl_IsHand A n c zs lo hi _ h).mono ?_; rintro e w' ⟨rfl, rfl⟩)
    go_ret
    exact ⟨rfl, Chg.refl _ _ _⟩
  · go_enter Try.func55, Try.ntmps55
    go_wp2_with (first | (go_at_call 49; refine (impl_IsHand A n c zs lo hi _ h).mono ?_; rintro e w' ⟨rfl, rfl⟩) | (go_at_call 50; refine (suitsOf A n c zs lo hi _ h hz).mono ?_; rintro e w1 ⟨rfl, c1⟩))
    go_loopw [5, 13] (fun x i wr => ∃ k : Nat, k ≤ 4 ∧ i = .int .i64 k ∧ x = .int .i64 (sumTo v zs k) ∧ Hid (Chg w wr 0 0)) (fun _ i _ => 4 - (intOf i).toNat)
    case atStart => exact ⟨0, by omega, rfl, rfl, c1⟩
    case round =>
      obtain ⟨k, hk, rfl, rfl, hc⟩ := hrel
      by_cases hlt : k < 4
      · have hkl : (k : Int) < 4 := by omega
        have hr := sumTo_range hv zs k
        have hr2 := sumTo_range hv zs (k + 1)
        have hat := row_index zs k hlt
        have hm := maskN_lt zs (k : Int)
        have hs := Lib.hid (show sumTo v zs (k + 1) = sumTo v zs k + v (maskN zs (k : Int)) from rfl)
        have hx := hv _ hm
        generalize maskN zs (k : Int) = m at hat hm hs hx
        generalize hR : rowOf zs = R at hat
        clear hR hv
        go_wp2_with (refine (hf m _ hm).mono ?_; rintro e w2 ⟨rfl, c2⟩)
        go_roundw
        case rel => exact ⟨k + 1, by omega, by go_num, by rw [hs.out], hc.out.trans c2⟩
        case measure => simp [intOf]; omega
      · obtain rfl : k = 4 := by omega
        go_wp2
        go_ret
        exact ⟨rfl, hc.out⟩
theorem sum_of {v : Nat → Int} {g : Int → Int} (zs : List Int) (hm : ∀ s : Int, s ≤ 3 → v (maskN zs s) = g s) : sumTo v zs 4 = g 0 + g 1 + g 2 + g 3 := by
  have e : sumTo v zs 4 = 0 + v (maskN zs 0) + v (maskN zs 1) + v (maskN zs 2) + v (maskN zs 3) := rfl
  rw [e, hm 0 (by omega), hm 1 (by omega), hm 2 (by omega), hm 3 (by omega), Int.zero_add]
theorem points_range (m : Nat) (_ : m < 8192) : 0 ≤ pointN m ∧ pointN m ≤ 100 := by
  have := bt_le m 12; have := bt_le m 11; have := bt_le m 10; have := bt_le m 9; unfold pointN; omega
theorem contr_range (m : Nat) (_ : m < 8192) : 0 ≤ contrN m ∧ contrN m ≤ 100 := by
  have := bt_le m 12; have := bt_le m 11; unfold contrN; omega
theorem lose_range (m : Nat) (_ : m < 8192) : 0 ≤ losersN m ∧ losersN m ≤ 100 := by
  have := loseN_range m (min (ones m) 3); unfold losersN; omega
theorem quick_range (m : Nat) (_ : m < 8192) : 0 ≤ quickN m ∧ quickN m ≤ 100 := by
  unfold quickN; split <;> (try split) <;> (try split) <;> (try split) <;> omega
theorem aces_range (m : Nat) (_ : m < 8192) : 0 ≤ acesN m ∧ acesN m ≤ 100 := by
  have := bt_le m 12; unfold acesN; omega
theorem points_sum (zs : List Int) : sumV pointN zs = hcpV zs := by
  unfold sumV hcpV
  cases hz : handB zs
  · rfl
  · simp only [if_true, sumF_suits pointF hz]
    exact sum_of (g := fun s => sumF pointF (suitF s zs)) zs (fun s _ => points_mask hz s)
theorem contr_sum (zs : List Int) : sumV contrN zs = ctrlV zs := by
  unfold sumV ctrlV
  cases hz : handB zs
  · rfl
  · simp only [if_true, sumF_suits contrF hz]
    exact sum_of (g := fun s => sumF contrF (suitF s zs)) zs (fun s _ => contr_mask hz s)
theorem lose_sum (zs : List Int) : sumV losersN zs = losersV zs := by
  unfold sumV losersV
  cases hz : handB zs
  · rfl
  · simp only [if_true]
    exact sum_of (g := fun s => loseS zs s) zs (fun s _ => lose_mask hz s)
theorem quick_sum (zs : List Int) : sumV quickN zs = quickV zs := by
  unfold sumV quickV
  cases hz : handB zs
  · rfl
  · simp only [if_true]
    exact sum_of (g := fun s => quickS zs s) zs (fun s _ => quick_mask hz s)
theorem aces_sum {zs : List Int} (hz : handB zs = true) : sumV acesN zs = sumF (honF 4) zs := by
  unfold sumV
  simp only [hz, if_true, sumF_suits (honF 4) hz]
  exact sum_of (g := fun s => sumF (honF 4) (suitF s zs)) zs (fun s h3 => aces_mask hz s h3)

theorem impl_HighCardPoints : ImplI 24 hcpV := by
  intro A n c zs lo hi w h _ _ _
  have he := enters_of Try.func82 (by kernel_rfl) rfl
  have hfld := count_field0
  have hv := Lib.hid (points_sum zs)
  go_enter Try.func24, Try.ntmps24
  go_wp2_with (first | (go_at_call 56; refine (suitCounts _).mono ?_; rintro e w1 ⟨rfl, c1⟩) | (go_at_call 55; refine (sumOverSuits pointsIn he points_range A n c zs lo hi _ (h.still c1)).mono ?_; rintro e w2 ⟨rfl, c2⟩))
  go_ret
  exact ⟨ret_int hv.out, c1.trans c2⟩

theorem impl_ControlsOf : ImplI 26 ctrlV := by
  intro A n c zs lo hi w h _ _ _
  have he := enters_of Try.func83 (by kernel_rfl) rfl
  have hfld := count_field1
  have hv := Lib.hid (contr_sum zs)
  go_enter Try.func26, Try.ntmps26
  go_wp2_with (first | (go_at_call 56; refine (suitCounts _).mono ?_; rintro e w1 ⟨rfl, c1⟩) | (go_at_call 55; refine (sumOverSuits controlsIn he contr_range A n c zs lo hi _ (h.still c1)).mono ?_; rintro e w2 ⟨rfl, c2⟩))
  go_ret
  exact ⟨ret_int hv.out, c1.trans c2⟩

theorem impl_LosersOf : ImplI 28 losersV := by
  intro A n c zs lo hi w h _ _ _
  have he := enters_of Try.func84 (by kernel_rfl) rfl
  have hfld := count_field2
  have hv := Lib.hid (lose_sum zs)
  go_enter Try.func28, Try.ntmps28
  go_wp2_with (first | (go_at_call 56; refine (suitCounts _).mono ?_; rintro e w1 ⟨rfl, c1⟩) | (go_at_call 55; refine (sumOverSuits losersIn he lose_range A n c zs lo hi _ (h.still c1)).mono ?_; rintro e w2 ⟨rfl, c2⟩))
  go_ret
  exact ⟨ret_int hv.out, c1.trans c2⟩

theorem impl_QuickTricks : ImplI 30 quickV := by
  intro A n c zs lo hi w h _ _ _
  have he := enters_of Try.func85 (by kernel_rfl) rfl
  have hfld := count_field3
  have hv := Lib.hid (quick_sum zs)
  go_enter Try.func30, Try.ntmps30
  go_wp2_with (first | (go_at_call 56; refine (suitCounts _).mono ?_; rintro e w1 ⟨rfl, c1⟩) | (go_at_call 55; refine (sumOverSuits quickTricksIn he quick_range A n c zs lo hi _ (h.still c1)).mono ?_; rintro e w2 ⟨rfl, c2⟩))
  go_ret
  exact ⟨ret_int hv.out, c1.trans c2⟩

end Go.Proofs.Ytklboaabcmghcaa.Lib1
