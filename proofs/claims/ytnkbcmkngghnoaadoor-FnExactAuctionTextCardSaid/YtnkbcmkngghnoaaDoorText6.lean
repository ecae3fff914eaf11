/- Chapter 6: the texts of calls, program and model. -/
import Derived.Test.YtnkbcmkngghnoaaDoorCall6
import Derived.WalkSpells
import Derived.Laws.Runes
import Derived.Laws.Strings
import Derived.Laws.Strings2
import Derived.Laws.Concat
import Derived.Laws.BytesArg
import Derived.Deep.RegionHeld3
namespace Go.Proofs.YtnkbcmkngghnoaaDoor.Lib1
open Go.RowKit
set_option maxRecDepth 100000

/-! ### The texts -/
def ltr6 (s : Int) : Int := ([67, 68, 72, 83, 78] : List Int).getD s.toNat 0
def digT (l : Int) : ByteArray := strOfNums [48 + l]
def ltrT (s : Int) : ByteArray := strOfNums [ltr6 s]
def callT (c : Int) : ByteArray := if inB c 3 37 then digT (levV c) ++ ltrT (strV c) else if c = 0 then ⟨#[80]⟩ else if c = 1 then ⟨#[88]⟩ else if c = 2 then ⟨#[88, 88]⟩ else ⟨#[]⟩
theorem callT_bid {c : Int} (h : 3 ≤ c ∧ c ≤ 37) : callT c = digT ((c - 3) / 5 + 1) ++ ltrT ((c - 3) % 5) := by unfold callT; rw [inB_true h, levV_yes h, strV_yes h]; rfl
theorem callT_no {c : Int} (h : ¬ (0 ≤ c ∧ c ≤ 37)) : callT c = ⟨#[]⟩ := by
  unfold callT
  rw [inB_false (by omega), if_neg (by simp), if_neg (by omega), if_neg (by omega), if_neg (by omega)]
theorem callT_size_fin : ∀ k : Fin 38, (callT ((k.val : Nat) : Int)).size ≤ 2 := by decide +kernel
theorem callT_apart_fin : ∀ i j : Fin 38, callT ((i.val : Nat) : Int) = callT ((j.val : Nat) : Int) → i = j := by decide +kernel
theorem callT_some_fin : ∀ k : Fin 38, callT ((k.val : Nat) : Int) ≠ ⟨#[]⟩ := by decide +kernel
theorem callT_size (c : Int) : (callT c).size ≤ 2 := by
  by_cases h : 0 ≤ c ∧ c ≤ 37
  · have := callT_size_fin ⟨c.toNat, by omega⟩
    rwa [show (((⟨c.toNat, by omega⟩ : Fin 38).val : Nat) : Int) = c by simp; omega] at this
  · rw [callT_no h]; decide
theorem callT_apart {i j : Nat} (hi : i < 38) (hj : j < 38) (h : callT (i : Int) = callT (j : Int)) : i = j := by
  have := callT_apart_fin ⟨i, hi⟩ ⟨j, hj⟩ h
  simpa using this
/-- The call whose text t is, and whether there is one. -/
def rcV (t : ByteArray) : Int × Bool := match (List.finRange 38).find? (fun k => decide (callT ((k.val : Nat) : Int) = t)) with | some k => (((k.val : Nat) : Int), true) | none => (0, false)
theorem rcV_hit {t : ByteArray} {k : Nat} (hk : k < 38) (h : callT (k : Int) = t) : rcV t = ((k : Int), true) := by
  unfold rcV
  cases hf : (List.finRange 38).find? (fun k => decide (callT ((k.val : Nat) : Int) = t)) with
  | none =>
    have := List.find?_eq_none.1 hf ⟨k, hk⟩ (List.mem_finRange _)
    simp [h] at this
  | some j =>
    have h1 := List.find?_some hf
    have h2 : callT ((j.val : Nat) : Int) = t := by simpa using h1
    have := callT_apart j.isLt hk (h2.trans h.symm)
    simp [this]
theorem rcV_none {t : ByteArray} (h : ∀ k, k < 38 → callT ((k : Nat) : Int) ≠ t) : rcV t = (0, false) := by
  unfold rcV
  cases hf : (List.finRange 38).find? (fun k => decide (callT ((k.val : Nat) : Int) = t)) with
  | none => rfl
  | some j =>
    have h1 := List.find?_some hf
    exact absurd (by simpa using h1) (h j.val j.isLt)
theorem rcV_text {c : Int} (h : 0 ≤ c ∧ c ≤ 37) : rcV (callT c) = (c, true) := by
  have e : ((c.toNat : Nat) : Int) = c := by omega
  have := rcV_hit (t := callT c) (k := c.toNat) (by omega) (by rw [e])
  rwa [e] at this
theorem rcV_no {c : Int} (h : ¬ (0 ≤ c ∧ c ≤ 37)) : rcV (callT c) = (0, false) := by
  rw [callT_no h]
  exact rcV_none (fun k hk => callT_some_fin ⟨k, hk⟩)

/-! ### The library's small numbers -/
theorem small6 (l : Nat) (w : World) (h0 : 1 ≤ l) (h1 : l ≤ 7) : Calls Tryd.prog 91 #[.int .i64 (l : Int)] w fun e w' => e = .returned (.string (digT (l : Int))) ∧ w = w' := by
  have hl : l = 1 ∨ l = 2 ∨ l = 3 ∨ l = 4 ∨ l = 5 ∨ l = 6 ∨ l = 7 := by omega
  rcases hl with rfl | rfl | rfl | rfl | rfl | rfl | rfl
  all_goals
    go_enter Tryd.func91, Tryd.ntmps91
    go_wp2
    go_ret
    exact ⟨ret_str (by decide +kernel), rfl⟩
theorem inFormatInt (l : Nat) (w : World) (h0 : 1 ≤ l) (h1 : l ≤ 7) : Calls Tryd.prog 78 #[.int .i64 (l : Int), .int .i64 10] w fun e w' => e = .returned (.string (digT (l : Int))) ∧ w = w' := by
  have q0 : (0 : Int) ≤ (l : Int) := by omega
  have q1 : (l : Int) < 100 := by omega
  go_enter Tryd.func78, Tryd.ntmps78
  go_wp2_with (go_at_call 91; refine (small6 l _ h0 h1).mono ?_; rintro e w' ⟨rfl, rfl⟩)
  go_ret
  exact ⟨rfl, rfl⟩
theorem formatInt (n : Int) (w : World) (h0 : 1 ≤ n) (h1 : n ≤ 7) : Calls Tryd.prog 57 #[.int .i64 n, .int .i64 10] w fun e w' => e = .returned (.string (digT n)) ∧ w = w' := by
  obtain ⟨l, rfl⟩ : ∃ l : Nat, n = (l : Int) := ⟨n.toNat, by omega⟩
  go_enter Tryd.func57, Tryd.ntmps57
  go_wp2_with (go_at_call 78; refine (inFormatInt l _ (by omega) (by omega)).mono ?_; rintro e w' ⟨rfl, rfl⟩)
  go_ret
  exact ⟨rfl, rfl⟩

/-! ### The program -/
theorem dig_ltr_size (l s : Int) : (digT l).size + (ltrT s).size ≤ 9223372036854775807 := by unfold digT ltrT; rw [strOfNums_size, strOfNums_size]; simp
set_option maxHeartbeats 1600000 in
theorem impl_CallText (c : Int) (w : World) : Calls Tryd.prog 27 #[.int .i64 c] w fun e w' => e = .returned (.string (callT c)) ∧ Chg w w' 0 0 := by
  by_cases hb : 3 ≤ c ∧ c ≤ 37
  · have b := inB_true hb
    have hl := levV_yes hb
    have hs := strV_yes hb
    have ht : callT c = digT (levV c) ++ ltrT (strV c) := by rw [callT_bid hb, hl, hs]
    have HT := Lib.hid ht
    have l0 : 1 ≤ levV c := by omega
    have l1 : levV c ≤ 7 := by omega
    have hq : strV c = 0 ∨ strV c = 1 ∨ strV c = 2 ∨ strV c = 3 ∨ strV c = 4 := by omega
    have n0 : (c == 0) = false := by simp; omega
    have n1 : (c == 1) = false := by simp; omega
    have n2 : (c == 2) = false := by simp; omega
    clear hb hl hs ht
    obtain ⟨L, hL⟩ : ∃ L, L = levV c := ⟨_, rfl⟩
    have HL := Lib.hid hL
    obtain ⟨S, hS⟩ : ∃ S, S = strV c := ⟨_, rfl⟩
    have HS := Lib.hid hS
    rw [← hL] at l0 l1
    rw [← hS] at hq
    have ha := fun W => run_string_add_sum (P := Tryd.prog) (w := W) (digT L) (ltrT S) (dig_ltr_size L S)
    clear hL hS
    rw [HT.out, ← HL.out, ← HS.out]
    rcases hq with rfl | rfl | rfl | rfl | rfl
    all_goals
      go_enter Tryd.func27, Tryd.ntmps27
      go_wp2_with (go_at_call 56; refine (isBid _ _).mono ?_; rintro e w' ⟨rfl, rfl⟩)
      go_wp2_with fail
      refine (impl_LevelOf c _).mono ?_
      rintro e w1 ⟨rfl, c1⟩
      rw [← HL.out]
      go_wp2_with fail
      refine (formatInt L _ l0 l1).mono ?_
      rintro e w' ⟨rfl, rfl⟩
      go_wp2_with fail
      refine (impl_StrainOf c _).mono ?_
      rintro e w2 ⟨rfl, c2⟩
      rw [← HS.out]
      go_wp2_with fail
      go_ret
      exact ⟨ret_str (congrArg (digT L ++ ·) (by decide +kernel)), c1.trans c2⟩
  · have b := inB_false hb
    by_cases h0 : c = 0
    · subst h0
      go_enter Tryd.func27, Tryd.ntmps27
      go_wp2
      go_ret
      exact ⟨ret_str (by decide +kernel), Chg.refl _ _ _⟩
    by_cases h1 : c = 1
    · subst h1
      go_enter Tryd.func27, Tryd.ntmps27
      go_wp2
      go_ret
      exact ⟨ret_str (by decide +kernel), Chg.refl _ _ _⟩
    by_cases h2 : c = 2
    · subst h2
      go_enter Tryd.func27, Tryd.ntmps27
      go_wp2
      go_ret
      exact ⟨ret_str (by decide +kernel), Chg.refl _ _ _⟩
    have HT := Lib.hid (callT_no (c := c) (by omega))
    have n0 : (c == 0) = false := by simp; omega
    have n1 : (c == 1) = false := by simp; omega
    have n2 : (c == 2) = false := by simp; omega
    rw [HT.out]
    clear hb h0 h1 h2
    go_enter Tryd.func27, Tryd.ntmps27
    go_wp2_with (go_at_call 56; refine (isBid _ _).mono ?_; rintro e w' ⟨rfl, rfl⟩)
    go_ret
    exact ⟨rfl, Chg.refl _ _ _⟩

/-! ### The model -/
theorem conv1 (w : World) (x : Int) :
    (convert 22 9 (.slice (some ⟨w.heap.size, 0, none⟩) 1 1)).run Tryd.prog (w.alloc (.cells #[.int .u8 x] 5)).drew = .ok (.string (strOfNums [x])) (w.alloc (.cells #[.int .u8 x] 5)).drew := by
  refine run_convert_bytes_arg _ 22 5 Tryd.underlying22 Tryd.underlying5 _ 0 1 1 [x] rfl ?_ 9 Tryd.underlying9
  intro i hi
  match i, hi with
  | 0, _ => simp
set_option maxHeartbeats 1600000 in
theorem spec_CallText (c : Int) (w : World) : Calls Tryd.prog 38 #[.int .i64 c] w fun e w' => e = .returned (.string (callT c)) ∧ Chg w w' 0 0 := by
  by_cases hb : 3 ≤ c ∧ c ≤ 37
  · have b := inB_true (n := c) (low := 0) (high := 37) (by omega)
    have hl := levV_yes hb
    have hs := strV_yes hb
    have ht : callT c = digT (levV c) ++ ltrT (strV c) := by rw [callT_bid hb, hl, hs]
    have HT := Lib.hid ht
    have l0 : 1 ≤ levV c := by omega
    have l1 : levV c ≤ 7 := by omega
    have hq : strV c = 0 ∨ strV c = 1 ∨ strV c = 2 ∨ strV c = 3 ∨ strV c = 4 := by omega
    have n0 : ¬ c < 3 := by omega
    clear hb hl hs ht
    obtain ⟨L, hL⟩ : ∃ L, L = levV c := ⟨_, rfl⟩
    have HL := Lib.hid hL
    obtain ⟨S, hS⟩ : ∃ S, S = strV c := ⟨_, rfl⟩
    have HS := Lib.hid hS
    rw [← hL] at l0 l1
    rw [← hS] at hq
    have hw : IntKind.u8.wrap (48 + L) = 48 + L := by rw [IntKind.wrap_u8]; omega
    have hw2 : IntKind.i64.wrap (48 + L) = 48 + L := IntWalk.i64_in _ (by omega)
    have u1 : IntKind.i64.wrap 1 = 1 := IntWalk.i64_in _ (by omega)
    have u2 : IntKind.i64.wrap 2 = 2 := IntWalk.i64_in _ (by omega)
    have u3 : IntKind.i64.wrap 3 = 3 := IntWalk.i64_in _ (by omega)
    have u4 : IntKind.i64.wrap 4 = 4 := IntWalk.i64_in _ (by omega)
    have u5 : IntKind.i64.wrap 5 = 5 := IntWalk.i64_in _ (by omega)
    have kc := conv1 w (48 + L)
    clear hL hS
    rw [HT.out, ← HL.out, ← HS.out]
    rcases hq with rfl | rfl | rfl | rfl | rfl
    all_goals
      have ha : (strOfNums [48 + L]).size = 1 := by simp [strOfNums_size]
      go_enter Tryd.func38, Tryd.ntmps38
      go_wp2_with (go_at_call 68; refine (spec_IsCall _ _).mono ?_; rintro e w' ⟨rfl, rfl⟩)
      go_wp2_with fail
      refine (spec_StrainOf c _).mono ?_
      rintro e w' ⟨rfl, rfl⟩
      rw [← HS.out]
      go_wp2_with fail
      go_region_with (go_at_call 70; refine (spec_LevelOf c _).mono ?_; rintro e w' ⟨rfl, rfl⟩; rw [← HL.out])
      all_goals
        go_wp2
        go_ret
        exact ⟨ret_str (congrArg (strOfNums [48 + L] ++ ·) (by decide +kernel)), Chg.alloc_drew _ _ _ _⟩
  · by_cases h0 : c = 0
    · subst h0
      go_enter Tryd.func38, Tryd.ntmps38
      go_wp2_with (go_at_call 68; refine (spec_IsCall _ _).mono ?_; rintro e w' ⟨rfl, rfl⟩; rw [inB_true (by omega)])
      go_ret
      exact ⟨ret_str (by decide +kernel), Chg.of_alloc _ _ _ _⟩
    by_cases h1 : c = 1
    · subst h1
      go_enter Tryd.func38, Tryd.ntmps38
      go_wp2_with (go_at_call 68; refine (spec_IsCall _ _).mono ?_; rintro e w' ⟨rfl, rfl⟩; rw [inB_true (by omega)])
      go_ret
      exact ⟨ret_str (by decide +kernel), Chg.of_alloc _ _ _ _⟩
    by_cases h2 : c = 2
    · subst h2
      go_enter Tryd.func38, Tryd.ntmps38
      go_wp2_with (go_at_call 68; refine (spec_IsCall _ _).mono ?_; rintro e w' ⟨rfl, rfl⟩; rw [inB_true (by omega)])
      go_ret
      exact ⟨ret_str (by decide +kernel), Chg.of_alloc _ _ _ _⟩
    have HT := Lib.hid (callT_no (c := c) (by omega))
    have b := inB_false (n := c) (low := 0) (high := 37) (by omega)
    rw [HT.out]
    clear hb h0 h1 h2
    go_enter Tryd.func38, Tryd.ntmps38
    go_wp2_with (go_at_call 68; refine (spec_IsCall _ _).mono ?_; rintro e w' ⟨rfl, rfl⟩)
    go_ret
    exact ⟨rfl, Chg.refl _ _ _⟩

end Go.Proofs.YtnkbcmkngghnoaaDoor.Lib1
