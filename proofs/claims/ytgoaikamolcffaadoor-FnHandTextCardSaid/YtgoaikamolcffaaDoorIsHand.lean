/- Contracts of IsHand (program and model), and the law that compares them. -/
import Derived.Test.YtgoaikamolcffaaDoorSmall
import Derived.Test.YtgoaikamolcffaaDoorLaw
namespace Go.Proofs.YtgoaikamolcffaaDoor.Lib1
open Go.RowKit

/-- A list of cards, strictly increasing, up to place k. -/
def risingTo (zs : List Int) (k : Nat) : Prop := ∀ j, j < k → (0 ≤ zs.getD j 0 ∧ zs.getD j 0 ≤ 51) ∧ (0 < j → zs.getD (j - 1) 0 < zs.getD j 0)
instance (zs : List Int) (k : Nat) : Decidable (risingTo zs k) := by unfold risingTo; exact inferInstance
def risingB (zs : List Int) : Bool := decide (risingTo zs zs.length)
def handB (zs : List Int) : Bool := decide (zs.length ≤ 13) && risingB zs

theorem risingTo_succ {zs : List Int} {k : Nat} (h : risingTo zs k) (h1 : 0 ≤ zs.getD k 0 ∧ zs.getD k 0 ≤ 51) (h2 : 0 < k → zs.getD (k - 1) 0 < zs.getD k 0) : risingTo zs (k + 1) := by
  intro j hj
  by_cases e : j < k
  · exact h j e
  · obtain rfl : j = k := by omega
    exact ⟨h1, h2⟩
theorem risingB_no {zs : List Int} {k : Nat} (hk : k < zs.length) (h : ¬ ((0 ≤ zs.getD k 0 ∧ zs.getD k 0 ≤ 51) ∧ (0 < k → zs.getD (k - 1) 0 < zs.getD k 0))) : risingB zs = false := by
  unfold risingB
  rw [decide_eq_false_iff_not]
  exact fun r => h (r k hk)
theorem risingB_yes {zs : List Int} (h : risingTo zs zs.length) : risingB zs = true := by unfold risingB; rw [decide_eq_true_iff]; exact h

set_option maxHeartbeats 1000000 in
/-- spec.l01Rising -/
theorem l01Rising (A : Option Addr) (n c : Nat) (zs : List Int) (lo hi : Nat) (w : World) (h : Rd w lo hi A n zs) (hn : n ≤ 1048576) :
    Calls Tryd.prog 23 #[.slice A n c] w fun e w' => e = .returned (.bool (risingB zs)) ∧ Chg w w' 0 0 := by
  have hl := h.1
  have HL := Lib.hid hl
  clear hl
  go_enter Tryd.func23, Tryd.ntmps23
  go_wp2
  go_loopw [3] (fun i wr => ∃ k q : Nat, k ≤ n ∧ i = .int .i64 k ∧ wr = w.drewN q ∧ Hid (risingTo zs k)) (fun i _ => n - (intOf i).toNat)
  case atStart => exact ⟨0, 0, Nat.zero_le _, rfl, rfl, fun j hj => by omega⟩
  case round =>
    obtain ⟨k, q, hk, rfl, rfl, hr⟩ := hrel
    by_cases hlt : k < n
    · obtain ⟨b, off, rfl, _, _, hc⟩ := h.2 (by omega)
      have hck := hc k hlt
      have hkl : (k : Int) < (n : Int) := by omega
      have hkz : k < zs.length := by rw [HL.out]; exact hlt
      by_cases hin : 0 ≤ zs.getD k 0 ∧ zs.getD k 0 ≤ 51
      · have bz := inB_true hin
        by_cases h0 : k = 0
        · have hr' : Hid (risingTo zs (k + 1)) := risingTo_succ hr.out hin (fun h => by omega)
          subst h0
          rw [Nat.add_zero] at hck
          generalize zs.getD 0 0 = z at hck bz
          have hd : decide ((0 : Int) < ((0 : Nat) : Int)) = false := by simp
          clear hin hkz
          go_wp2
          go_quiet ((go_at_call 45; first | exact quiet_add (l01Card _ _) | exact quiet_eq (l01Card _ _)))
          go_wp2
          go_roundw
          case rel => exact ⟨1, _, by omega, rfl, rfl, hr'⟩
          case measure => simp [intOf]; omega
        · have hp := hc (k - 1) (by omega)
          have hp0 : (0 : Int) < (k : Int) := by omega
          have hp1 : 0 < k := by omega
          have e1 : ((k : Int) - 1).toNat = k - 1 := by omega
          have e2 : IntKind.i64.wrap ((k : Int) - 1) = (k : Int) - 1 := IntWalk.i64_in _ (by omega)
          have e3 : 0 ≤ (k : Int) - 1 := by omega
          have e4 : (k : Int) - 1 < (n : Int) := by omega
          by_cases hord : zs.getD (k - 1) 0 < zs.getD k 0
          · have hr' : Hid (risingTo zs (k + 1)) := risingTo_succ hr.out hin (fun _ => hord)
            generalize zs.getD (k - 1) 0 = y at hord hp
            generalize zs.getD k 0 = z at hck bz hord
            have ht : decide (z ≤ y) = false := by simp; omega
            clear hin hkz hc hr
            go_wp2
            go_quiet ((go_at_call 45; first | exact quiet_add (l01Card _ _) | exact quiet_eq (l01Card _ _)))
            go_wp2
            go_roundw
            case rel => exact ⟨k + 1, _, by omega, by go_num, rfl, hr'⟩
            case measure => simp [intOf]; omega
          · have hf : Hid (risingB zs = false) := risingB_no hkz (fun h => hord (h.2 (by omega)))
            generalize zs.getD (k - 1) 0 = y at hord hp
            generalize zs.getD k 0 = z at hck bz hord
            have ht : decide (z ≤ y) = true := by simp; omega
            clear hin hkz hc hr
            go_wp2
            go_quiet ((go_at_call 45; first | exact quiet_add (l01Card _ _) | exact quiet_eq (l01Card _ _)))
            go_wp2
            go_ret
            exact ⟨ret_bool hf.out.symm, by first | exact Chg.drewN _ _ _ _ | exact (Chg.drewN _ _ _ _).trans (Chg.drewN _ _ _ _)⟩
      · have bz := inB_false hin
        have hf : Hid (risingB zs = false) := risingB_no hkz (fun h => hin h.1)
        generalize zs.getD k 0 = z at hck bz
        clear hin hkz hc hr
        go_wp2
        go_quiet ((go_at_call 45; first | exact quiet_add (l01Card _ _) | exact quiet_eq (l01Card _ _)))
        go_wp2
        go_ret
        exact ⟨ret_bool hf.out.symm, by first | exact Chg.drewN _ _ _ _ | exact (Chg.drewN _ _ _ _).trans (Chg.drewN _ _ _ _)⟩
    · have hf : Hid (risingB zs = true) := risingB_yes (by rw [HL.out]; have : k = n := by omega
                                                           rw [← this]; exact hr.out)
      go_wp2
      go_ret
      exact ⟨ret_bool hf.out.symm, by first | exact Chg.drewN _ _ _ _ | exact (Chg.drewN _ _ _ _).trans (Chg.drewN _ _ _ _)⟩

theorem handB_long {zs : List Int} (h : ¬ zs.length ≤ 13) : handB zs = false := by simp [handB, h]
theorem handB_short {zs : List Int} (h : zs.length ≤ 13) : handB zs = risingB zs := by simp [handB, h]

/-- spec.IsHand -/
theorem spec_IsHand (A : Option Addr) (n c : Nat) (zs : List Int) (lo hi : Nat) (w : World) (h : Rd w lo hi A n zs) (hn : n ≤ 1048576) :
    Calls Tryd.prog 8 #[.slice A n c] w fun e w' => e = .returned (.bool (handB zs)) ∧ Chg w w' 0 0 := by
  have hl := h.1
  by_cases h13 : n ≤ 13
  · rw [handB_short (by omega)]
    have h13' : (n : Int) ≤ 13 := by omega
    clear hl
    go_enter Tryd.func8, Tryd.ntmps8
    go_wp2_with (go_at_call 23; refine (l01Rising _ _ _ zs lo hi _ h hn).mono ?_; rintro e w' ⟨rfl, hc⟩)
    go_ret
    exact ⟨rfl, hc⟩
  · rw [handB_long (by omega)]
    have h13' : ¬ (n : Int) ≤ 13 := by omega
    clear hl
    go_enter Tryd.func8, Tryd.ntmps8
    go_wp2
    go_ret
    exact ⟨rfl, Chg.refl _ _ _⟩

set_option maxHeartbeats 1000000 in
/-- impl.IsHand -/
theorem impl_IsHand (A : Option Addr) (n c : Nat) (zs : List Int) (lo hi : Nat) (w : World) (h : Rd w lo hi A n zs) :
    Calls Tryd.prog 19 #[.slice A n c] w fun e w' => e = .returned (.bool (handB zs)) ∧ w = w' := by
  have hl := h.1
  have HL := Lib.hid hl
  by_cases h13 : n ≤ 13
  · have h13' : ¬ (13 : Int) < (n : Int) := by omega
    rw [handB_short (by omega)]
    clear hl
    go_enter Tryd.func19, Tryd.ntmps19
    go_wp2
    go_loop [10] (fun i => ∃ k : Nat, k ≤ n ∧ i = .int .i64 k ∧ Hid (risingTo zs k)) (fun i => n - (intOf i).toNat)
    case atStart => exact ⟨0, Nat.zero_le _, rfl, fun j hj => by omega⟩
    case round =>
      obtain ⟨k, hk, rfl, hr⟩ := hrel
      by_cases hlt : k < n
      · obtain ⟨b, off, rfl, _, _, hc⟩ := h.2 (by omega)
        have hck := hc k hlt
        have hkl : (k : Int) < (n : Int) := by omega
        have hkz : k < zs.length := by rw [HL.out]; exact hlt
        by_cases hin : 0 ≤ zs.getD k 0 ∧ zs.getD k 0 ≤ 51
        · have bz := inB_true hin
          by_cases h0 : k = 0
          · have hr' : Hid (risingTo zs (k + 1)) := risingTo_succ hr.out hin (fun h => by omega)
            subst h0
            rw [Nat.add_zero] at hck
            generalize zs.getD 0 0 = z at hck bz
            clear hin hkz hc hr
            go_wp2_with (go_at_call 38; refine (isCard _ _).mono ?_; rintro e w' ⟨rfl, rfl⟩)
            go_round
            case rel => exact ⟨1, by omega, rfl, hr'⟩
            case measure => simp [intOf]; omega
          · have hp := hc (k - 1) (by omega)
            have hp0 : (0 : Int) < (k : Int) := by omega
            have hp1 : 0 < k := by omega
            have e1 : ((k : Int) - 1).toNat = k - 1 := by omega
            have e3 : 0 ≤ (k : Int) - 1 := by omega
            have e4 : (k : Int) - 1 < (n : Int) := by omega
            by_cases hord : zs.getD (k - 1) 0 < zs.getD k 0
            · have hr' : Hid (risingTo zs (k + 1)) := risingTo_succ hr.out hin (fun _ => hord)
              generalize zs.getD (k - 1) 0 = y at hord hp
              generalize zs.getD k 0 = z at hck bz hord
              have ht : ¬ z ≤ y := by omega
              clear hin hkz hc hr
              go_wp2_with (go_at_call 38; refine (isCard _ _).mono ?_; rintro e w' ⟨rfl, rfl⟩)
              go_round
              case rel => exact ⟨k + 1, by omega, by go_num, hr'⟩
              case measure => simp [intOf]; omega
            · have hf : Hid (risingB zs = false) := risingB_no hkz (fun h => hord (h.2 (by omega)))
              generalize zs.getD (k - 1) 0 = y at hord hp
              generalize zs.getD k 0 = z at hck bz hord
              have ht : z ≤ y := by omega
              clear hin hkz hc hr
              go_wp2_with (go_at_call 38; refine (isCard _ _).mono ?_; rintro e w' ⟨rfl, rfl⟩)
              go_ret
              exact ⟨ret_bool hf.out.symm, rfl⟩
        · have bz := inB_false hin
          have hf : Hid (risingB zs = false) := risingB_no hkz (fun h => hin h.1)
          generalize zs.getD k 0 = z at hck bz
          clear hin hkz hc hr
          go_wp2_with (go_at_call 38; refine (isCard _ _).mono ?_; rintro e w' ⟨rfl, rfl⟩)
          go_ret
          exact ⟨ret_bool hf.out.symm, rfl⟩
      · have hf : Hid (risingB zs = true) := risingB_yes (by rw [HL.out]; have : k = n := by omega
                                                             rw [← this]; exact hr.out)
        go_wp2
        go_ret
        exact ⟨ret_bool hf.out.symm, rfl⟩
  · have h13' : (13 : Int) < (n : Int) := by omega
    rw [handB_long (by omega)]
    clear hl
    go_enter Tryd.func19, Tryd.ntmps19
    go_wp2
    go_ret
    exact ⟨rfl, rfl⟩


end Go.Proofs.YtgoaikamolcffaaDoor.Lib1
