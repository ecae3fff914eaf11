/- Chapter 2: the program's sums over the suits, and the laws' contracts of its numbers. -/
import Derived.Test.YteojdlacdnfgiaaMasks
import Derived.Shelf.Abstract
namespace Go.Proofs.Yteojdlacdnfgiaa.Lib1
open Go.RowKit
set_option maxRecDepth 100000

def countRow : Array Value := #[.func (.func 88) #[] #[], .func (.func 89) #[] #[], .func (.func 90) #[] #[], .func (.func 91) #[] #[], .func (.func 92) #[] #[], .func (.func 93) #[] #[]]
theorem count_info : (Try.prog.info? 68).map (·.size) = some countRow.size := by kernel_rfl
theorem count_cells : countRow.all (·.oneCell') = true := by kernel_rfl
theorem suitCounts (w : World) : Calls Try.prog 54 #[] w fun e w' => e = .returned (.agg countRow) ∧ Chg w w' 0 0 := by
  have hg := heap_alloc_new w (.cells #[.nilFunc, .nilFunc, .nilFunc, .nilFunc, .nilFunc, .nilFunc] 68)
  have hg2 := setRow_heap _ _ _ countRow _ _ hg
  have hc := (Chg.of_alloc w (.cells #[.nilFunc, .nilFunc, .nilFunc, .nilFunc, .nilFunc, .nilFunc] 68) 0 0).row (Nat.le_refl _) countRow
  go_enter Try.func54, Try.ntmps54
  go_wp2_with (refine wpList_store_row rfl 68 _ _ rfl w.heap.size countRow rfl rfl 68 _ hg count_info rfl count_cells ?_)
  refine bodyPost_ret (v := .agg countRow) (results_cell_row Try.results54 _ _ w.heap.size 68 countRow (0, 0) _ rfl hg2 Try.underlying68 rfl count_info) rfl ?_
  exact ⟨rfl, hc⟩
theorem count_field0 (w : World) : (Instr.field 68 (.agg countRow) 0).run Try.prog w = .ok (.func (.func 88) #[] #[]) w := by kernel_rfl
theorem count_field1 (w : World) : (Instr.field 68 (.agg countRow) 1).run Try.prog w = .ok (.func (.func 89) #[] #[]) w := by kernel_rfl
theorem count_field2 (w : World) : (Instr.field 68 (.agg countRow) 2).run Try.prog w = .ok (.func (.func 90) #[] #[]) w := by kernel_rfl
theorem count_field3 (w : World) : (Instr.field 68 (.agg countRow) 3).run Try.prog w = .ok (.func (.func 91) #[] #[]) w := by kernel_rfl
theorem count_field4 (w : World) : (Instr.field 68 (.agg countRow) 4).run Try.prog w = .ok (.func (.func 92) #[] #[]) w := by kernel_rfl
theorem count_field5 (w : World) : (Instr.field 68 (.agg countRow) 5).run Try.prog w = .ok (.func (.func 93) #[] #[]) w := by kernel_rfl
/-- The sum of a count over the first k suits. -/
def sumTo (v : Nat → Int) (zs : List Int) : Nat → Int
  | 0 => 0
  | k + 1 => sumTo v zs k + v (maskN zs (k : Int))
def sumV (v : Nat → Int) (zs : List Int) : Int := if handB zs then sumTo v zs 4 else -1
theorem sumTo_range {v : Nat → Int} (hv : ∀ m, m < 8192 → 0 ≤ v m ∧ v m ≤ 100) (zs : List Int) : ∀ k : Nat, 0 ≤ sumTo v zs k ∧ sumTo v zs k ≤ 100 * k
  | 0 => by simp [sumTo]
  | k + 1 => by have := sumTo_range hv zs k; have := hv _ (maskN_lt zs (k : Int)); simp only [sumTo]; omega

set_option maxHeartbeats 1000000 in

theorem sumOverSuits {f : Nat} {v : Nat → Int} (hf : OfSuit f v) (he : ∀ args w, (callFunc f args).run Try.prog w = .ok (.enter f args) w) (hv : ∀ m, m < 8192 → 0 ≤ v m ∧ v m ≤ 100)
    (A : Option Addr) (n c : Nat) (zs : List Int) (lo hi : Nat) (w : World) (h : Rd w lo hi A n zs) :
    Calls Try.prog 53 #[.slice A n c, .func (.func f) #[] #[]] w fun e w' => e = .returned (.int .i64 (sumV v zs)) ∧ Chg w w' 0 0 := by
  unfold sumV
  cases hz : handB zs
  · go_enter Try.func53, Try.ntmps53
    go_wp2_with (go_at_call 47; refine (impl_IsHand A n c zs lo hi _ h).mono ?_; rintro e w' ⟨rfl, rfl⟩)
    go_ret
    exact ⟨rfl, Chg.refl _ _ _⟩
  · go_enter Try.func53, Try.ntmps53
    go_wp2_with (first | (go_at_call 47; refine (impl_IsHand A n c zs lo hi _ h).mono ?_; rintro e w' ⟨rfl, rfl⟩) | (go_at_call 48; refine (suitsOf A n c zs lo hi _ h hz).mono ?_; rintro e w1 ⟨rfl, c1⟩))
    go_loopw [5, 13] (fun x i wr => ∃ k : Nat, k ≤ 4 ∧ i = .int .i64 k ∧ x = .int .i64 (sumTo v zs k) ∧ Hid (Chg w wr 0 0)) (fun _ i _ => 4 - (intOf i).toNat)
    case atStart => exact ⟨0, by omega, rfl, rfl, c1⟩
    case round =>
      obtain ⟨k, hk, rfl, rfl, hc⟩ := hrel
      by_cases hlt : k < 4
      · have hkl : (k : Int) < 4 := by omega
        have hr := sumTo_range hv zs k
        have hr2 := sumTo_range hv zs (k + 1)
        have hat := row_index zs k hlt
        have hm := maskN_lt zs (k : Int)
        have hs := Lib.hid (show sumTo v zs (k + 1) = sumTo v zs k + v (maskN zs (k : Int)) from rfl)
        have hx := hv _ hm
        generalize maskN zs (k : Int) = m at hat hm hs hx
        generalize hR : rowOf zs = R at hat
        clear hR hv
        go_wp2_with (refine (hf m _ hm).mono ?_; rintro e w2 ⟨rfl, c2⟩)
        go_roundw
        case rel => exact ⟨k + 1, by omega, by go_num, by rw [hs.out], hc.out.trans c2⟩
        case measure => simp [intOf]; omega
      · obtain rfl : k = 4 := by omega
        go_wp2
        go_ret
        exact ⟨rfl, hc.out⟩
theorem sum_of {v : Nat → Int} {g : Int → Int} (zs : List Int) (hm : ∀ s : Int, s ≤ 3 → v (maskN zs s) = g s) : sumTo v zs 4 = g 0 + g 1 + g 2 + g 3 := by
  have e : sumTo v zs 4 = 0 + v (maskN zs 0) + v (maskN zs 1) + v (maskN zs 2) + v (maskN zs 3) := rfl
  rw [e, hm 0 (by omega), hm 1 (by omega), hm 2 (by omega), hm 3 (by omega), Int.zero_add]
theorem points_range (m : Nat) (_ : m < 8192) : 0 ≤ pointN m ∧ pointN m ≤ 100 := by
  have := bt_le m 12; have := bt_le m 11; have := bt_le m 10; have := bt_le m 9; unfold pointN; omega
theorem contr_range (m : Nat) (_ : m < 8192) : 0 ≤ contrN m ∧ contrN m ≤ 100 := by
  have := bt_le m 12; have := bt_le m 11; unfold contrN; omega
theorem lose_range (m : Nat) (_ : m < 8192) : 0 ≤ losersN m ∧ losersN m ≤ 100 := by
  have := loseN_range m (min (ones m) 3); unfold losersN; omega
theorem quick_range (m : Nat) (_ : m < 8192) : 0 ≤ quickN m ∧ quickN m ≤ 100 := by
  unfold quickN; split <;> (try split) <;> (try split) <;> (try split) <;> omega
theorem aces_range (m : Nat) (_ : m < 8192) : 0 ≤ acesN m ∧ acesN m ≤ 100 := by
  have := bt_le m 12; unfold acesN; omega
theorem points_sum (zs : List Int) : sumV pointN zs = hcpV zs := by
  unfold sumV hcpV
  cases hz : handB zs
  · rfl
  · simp only [if_true, sumF_suits pointF hz]
    exact sum_of (g := fun s => sumF pointF (suitF s zs)) zs (fun s _ => points_mask hz s)
theorem contr_sum (zs : List Int) : sumV contrN zs = ctrlV zs := by
  unfold sumV ctrlV
  cases hz : handB zs
  · rfl
  · simp only [if_true, sumF_suits contrF hz]
    exact sum_of (g := fun s => sumF contrF (suitF s zs)) zs (fun s _ => contr_mask hz s)
theorem lose_sum (zs : List Int) : sumV losersN zs = losersV zs := by
  unfold sumV losersV
  cases hz : handB zs
  · rfl
  · simp only [if_true]
    exact sum_of (g := fun s => loseS zs s) zs (fun s _ => lose_mask hz s)
theorem quick_sum (zs : List Int) : sumV quickN zs = quickV zs := by
  unfold sumV quickV
  cases hz : handB zs
  · rfl
  · simp only [if_true]
    exact sum_of (g := fun s => quickS zs s) zs (fun s _ => quick_mask hz s)
theorem aces_sum {zs : List Int} (hz : handB zs = true) : sumV acesN zs = sumF (honF 4) zs := by
  unfold sumV
  simp only [hz, if_true, sumF_suits (honF 4) hz]
  exact sum_of (g := fun s => sumF (honF 4) (suitF s zs)) zs (fun s h3 => aces_mask hz s h3)

theorem impl_HighCardPoints : ImplI 15 hcpV := by
  intro A n c zs lo hi w h _ _ _
  have he := enters_of Try.func88 (by kernel_rfl) rfl
  have hfld := count_field0
  have hv := Lib.hid (points_sum zs)
  go_enter Try.func15, Try.ntmps15
  go_wp2_with (first | (go_at_call 54; refine (suitCounts _).mono ?_; rintro e w1 ⟨rfl, c1⟩) | (go_at_call 53; refine (sumOverSuits pointsIn he points_range A n c zs lo hi _ (h.still c1)).mono ?_; rintro e w2 ⟨rfl, c2⟩))
  go_ret
  exact ⟨ret_int hv.out, c1.trans c2⟩

theorem impl_ControlsOf : ImplI 16 ctrlV := by
  intro A n c zs lo hi w h _ _ _
  have he := enters_of Try.func89 (by kernel_rfl) rfl
  have hfld := count_field1
  have hv := Lib.hid (contr_sum zs)
  go_enter Try.func16, Try.ntmps16
  go_wp2_with (first | (go_at_call 54; refine (suitCounts _).mono ?_; rintro e w1 ⟨rfl, c1⟩) | (go_at_call 53; refine (sumOverSuits controlsIn he contr_range A n c zs lo hi _ (h.still c1)).mono ?_; rintro e w2 ⟨rfl, c2⟩))
  go_ret
  exact ⟨ret_int hv.out, c1.trans c2⟩

theorem impl_LosersOf : ImplI 17 losersV := by
  intro A n c zs lo hi w h _ _ _
  have he := enters_of Try.func90 (by kernel_rfl) rfl
  have hfld := count_field2
  have hv := Lib.hid (lose_sum zs)
  go_enter Try.func17, Try.ntmps17
  go_wp2_with (first | (go_at_call 54; refine (suitCounts _).mono ?_; rintro e w1 ⟨rfl, c1⟩) | (go_at_call 53; refine (sumOverSuits losersIn he lose_range A n c zs lo hi _ (h.still c1)).mono ?_; rintro e w2 ⟨rfl, c2⟩))
  go_ret
  exact ⟨ret_int hv.out, c1.trans c2⟩

theorem impl_QuickTricks : ImplI 18 quickV := by
  intro A n c zs lo hi w h _ _ _
  have he := enters_of Try.func91 (by kernel_rfl) rfl
  have hfld := count_field3
  have hv := Lib.hid (quick_sum zs)
  go_enter Try.func18, Try.ntmps18
  go_wp2_with (first | (go_at_call 54; refine (suitCounts _).mono ?_; rintro e w1 ⟨rfl, c1⟩) | (go_at_call 53; refine (sumOverSuits quickTricksIn he quick_range A n c zs lo hi _ (h.still c1)).mono ?_; rintro e w2 ⟨rfl, c2⟩))
  go_ret
  exact ⟨ret_int hv.out, c1.trans c2⟩

/-- impl.isStrain -/
theorem isStrain2 (t : Int) (w : World) : Calls Try.prog 57 #[.int .i64 t] w fun e w' => e = .returned (.bool (inB t 0 4)) ∧ w = w' := by
  by_cases h1 : 0 ≤ t
  · by_cases h2 : t ≤ 4
    · rw [inB_true ⟨h1, h2⟩]
      go_enter Try.func57, Try.ntmps57
      go_wp2
      go_ret
      exact ⟨rfl, rfl⟩
    · rw [inB_false (by omega)]
      go_enter Try.func57, Try.ntmps57
      go_wp2
      go_ret
      exact ⟨rfl, rfl⟩
  · rw [inB_false (by omega)]
    go_enter Try.func57, Try.ntmps57
    go_wp2
    go_ret
    exact ⟨rfl, rfl⟩

theorem impl_HonorsOf : ImplI1 21 honV := by
  intro A n c t zs lo hi w h _ _ _
  have he := enters_of Try.func92 (by kernel_rfl) rfl
  have hfld := count_field4
  have hfld5 := count_field5
  have he2 := enters_of Try.func93 (by kernel_rfl) rfl
  cases hz : handB zs
  · have e : Hid (honV zs t = -1) := by show _ = _; simp [honV, hz]
    go_enter Try.func21, Try.ntmps21
    go_wp2_with (go_at_call 47; refine (impl_IsHand A n c zs lo hi _ h).mono ?_; rintro e w' ⟨rfl, rfl⟩)
    go_ret
    exact ⟨ret_int e.out.symm, Chg.refl _ _ _⟩
  · by_cases h4 : t = 4
    · subst h4
      have b4 : inB 4 0 4 = true := inB_true (by omega)
      have hv : Hid (sumV acesN zs = honV zs 4) := by show _ = _; rw [aces_sum hz, honV, hz]; rfl
      go_enter Try.func21, Try.ntmps21
      go_wp2_with (first | (go_at_call 47; refine (impl_IsHand A n c zs lo hi _ h).mono ?_; rintro e w' ⟨rfl, rfl⟩) | (go_at_call 57; refine (isStrain2 _ _).mono ?_; rintro e w' ⟨rfl, rfl⟩) | (go_at_call 54; refine (suitCounts _).mono ?_; rintro e w1 ⟨rfl, c1⟩) | (go_at_call 53; refine (sumOverSuits acesIn he aces_range A n c zs lo hi _ (h.still c1)).mono ?_; rintro e w2 ⟨rfl, c2⟩))
      go_ret
      exact ⟨ret_int hv.out, c1.trans c2⟩
    · by_cases ht : 0 ≤ t ∧ t ≤ 3
      · obtain ⟨t0, t1⟩ := ht
        obtain ⟨k, rfl⟩ : ∃ k : Nat, t = k := ⟨t.toNat, by omega⟩
        have hk : k < 4 := by omega
        have hv : Hid (honN (maskN zs (k : Int)) = honV zs (k : Int)) := by
          show _ = _
          have e : inB (k : Int) 0 4 = true := inB_true (by omega)
          rw [honV, hz, e, ← hon_part hz t0 t1]
          exact honors_mask hz _ t1
        have hat := row_index zs k hk
        have hm := maskN_lt zs (k : Int)
        have b0 : inB (k : Int) 0 4 = true := inB_true (by omega)
        have b2 : ((k : Int) == 4) = false := by simpa using h4
        generalize maskN zs (k : Int) = m at hv hat hm
        clear h4 hk t0 t1
        go_enter Try.func21, Try.ntmps21
        go_wp2_with (first | (go_at_call 47; refine (impl_IsHand A n c zs lo hi _ h).mono ?_; rintro e w' ⟨rfl, rfl⟩) | (go_at_call 57; refine (isStrain2 _ _).mono ?_; rintro e w' ⟨rfl, rfl⟩) | (go_at_call 54; refine (suitCounts _).mono ?_; rintro e w1 ⟨rfl, c1⟩) | (go_at_call 48; refine (suitsOf A n c zs lo hi _ (h.still c1) hz).mono ?_; rintro e w2 ⟨rfl, c2⟩) | (go_at_call 93; refine (honorsIn m _ hm).mono ?_; rintro e w3 ⟨rfl, c3⟩))
        go_ret
        exact ⟨ret_int hv.out, (c1.trans c2).trans c3⟩
      · have e : Hid (honV zs t = -1) := by show _ = _; rw [honV, inB_false (by omega)]; simp
        have b0 : inB t 0 4 = false := inB_false (by omega)
        clear h4 ht
        go_enter Try.func21, Try.ntmps21
        go_wp2_with (first | (go_at_call 47; refine (impl_IsHand A n c zs lo hi _ h).mono ?_; rintro e w' ⟨rfl, rfl⟩) | (go_at_call 57; refine (isStrain2 _ _).mono ?_; rintro e w' ⟨rfl, rfl⟩))
        go_ret
        exact ⟨ret_int e.out.symm, Chg.refl _ _ _⟩

end Go.Proofs.Yteojdlacdnfgiaa.Lib1
