/- Chapter 3: the program's PermuteSuits. -/
import Derived.Test.YteojdlacdnfgiaaSetR5
import Derived.Test.YteojdlacdnfgiaaBase1
namespace Go.Proofs.Yteojdlacdnfgiaa.Lib1
open Go.RowKit
set_option maxRecDepth 100000

theorem order_no {to : List Int} {k : Nat} (hk : k < 4) (h : hasB to (k : Int) = false) : orderB to = false := by
  have hq : k = 0 ∨ k = 1 ∨ k = 2 ∨ k = 3 := by omega
  rcases hq with rfl | rfl | rfl | rfl <;> simp at h <;> simp [orderB, h]
theorem isSuitOrder (T : Option Addr) (m d : Nat) (to : List Int) (lo hi : Nat) (w : World) (h : Rd w lo hi T m to) :
    Calls Try.prog 102 #[.slice T m d] w fun e w' => e = .returned (.bool (orderB to)) ∧ w = w' := by
  have hz := h.1
  by_cases h4 : m = 4
  · subst h4
    go_enter Try.func102, Try.ntmps102
    go_wp2
    go_loop [7] (fun i => ∃ k : Nat, k ≤ 4 ∧ i = .int .i64 k ∧ Hid (∀ j : Nat, j < k → hasB to (j : Int) = true)) (fun i => 4 - (intOf i).toNat)
    case atStart => exact ⟨0, Nat.zero_le _, rfl, fun j hj => by omega⟩
    case round =>
      obtain ⟨k, hk, rfl, hall⟩ := hrel
      by_cases hlt : k < 4
      · have hkl : (k : Int) < 4 := by omega
        have hco := Contains64 T 4 d (k : Int) to lo hi w h (by omega)
        cases hh : hasB to (k : Int) with
        | false =>
          have hf := Lib.hid (order_no hlt hh)
          rw [hh] at hco
          clear hh
          go_wp2_with (go_at_call 133; refine hco.mono ?_; rintro e w' ⟨rfl, rfl⟩)
          go_ret
          exact ⟨ret_bool hf.out.symm, rfl⟩
        | true =>
          have hn : Hid (∀ j : Nat, j < k + 1 → hasB to (j : Int) = true) := fun j hj => by
            by_cases e : j = k
            · subst e; exact hh
            · exact hall.out j (by omega)
          rw [hh] at hco
          clear hh
          go_wp2_with (go_at_call 133; refine hco.mono ?_; rintro e w' ⟨rfl, rfl⟩)
          go_round
          case rel => exact ⟨k + 1, by omega, by go_num, hn⟩
          case measure => simp [intOf]; omega
      · obtain rfl : k = 4 := by omega
        have ht : Hid (orderB to = true) := by
          have a0 := hall.out 0 (by omega)
          have a1 := hall.out 1 (by omega)
          have a2 := hall.out 2 (by omega)
          have a3 := hall.out 3 (by omega)
          show _ = _
          simp at a0 a1 a2 a3
          simp [orderB, hz, a0, a1, a2, a3]
        go_wp2
        go_ret
        exact ⟨ret_bool ht.out.symm, rfl⟩
  · have hne : ((m : Int) == 4) = false := by simp; omega
    rw [show orderB to = false by simp [orderB, hz, h4]]
    go_enter Try.func102, Try.ntmps102
    go_wp2
    go_ret
    exact ⟨rfl, rfl⟩

theorem permute_fn (pt d : Nat) (T : Option Addr) (to : List Int) (lo hi : Nat) (w : World) (hp : w.cell? ⟨pt, 0, none⟩ = some (.slice T 4 d)) (h : Rd w lo hi T 4 to) (ho : orderB to = true) :
    CardFn 103 #[.pointer (some ⟨pt, 0, none⟩)] (newSuit to) w := by
  intro x h0 h1 W hbw
  have kp := cell_below hp hbw (lt_of_cell hp)
  obtain ⟨k, hk⟩ : ∃ k : Nat, x / 13 = k := ⟨(x / 13).toNat, by omega⟩
  have hk4 : k < 4 := by omega
  obtain ⟨tb, toff, rfl, _, _, hc⟩ := (h.all.below hbw (Nat.le_refl _)).2 (by omega)
  have hck := hc k hk4
  have hrg := (order_range ho).2 k hk4
  have hnew : Hid (newSuit to x = 13 * to.getD k 0 + x % 13) := by show _ = _; unfold newSuit; rw [hk]; simp
  have hS : ∀ W', Calls Try.prog 105 #[.int .i64 x] W' fun e w' => e = .returned (.int .i64 (k : Int)) ∧ W' = w' := fun W' => by
    have := impl_SuitOf x W'; rw [suitV_yes ⟨h0, h1⟩, hk] at this; exact this
  have hR : ∀ W', Calls Try.prog 106 #[.int .i64 x] W' fun e w' => e = .returned (.int .i64 (x % 13)) ∧ W' = w' := fun W' => by
    have := impl_RankOf x W'; rw [rankV_yes ⟨h0, h1⟩] at this; exact this
  have hC : ∀ W', Calls Try.prog 104 #[.int .i64 (to.getD k 0), .int .i64 (x % 13)] W' fun e w' => e = .returned (.int .i64 (newSuit to x)) ∧ W' = w' := fun W' => by
    have := impl_CardOf (to.getD k 0) (x % 13) W'; rw [cardV_yes ⟨hrg, by omega⟩, ← hnew.out] at this; exact this
  have hkl : (k : Int) < 4 := by omega
  clear hp hc hnew hrg
  generalize to.getD k 0 = tk at hck hC
  generalize newSuit to x = nx at hC
  generalize x % 13 = r at hR hC
  show Calls Try.prog _ #[.int .i64 x, .pointer (some ⟨pt, 0, none⟩)] W _
  go_enter Try.func103, Try.ntmps103
  go_wp2
  go_quiet ((first | (go_at_call 105; first | exact quiet_add (hS _) | exact quiet_eq (hS _)) | (go_at_call 106; first | exact quiet_add (hR _) | exact quiet_eq (hR _)) | (go_at_call 104; first | exact quiet_add (hC _) | exact quiet_eq (hC _))))
  go_wp2
  go_ret
  exact ⟨rfl, (Chg.drewN W _ 0 0).to_below⟩

end Go.Proofs.Yteojdlacdnfgiaa.Lib1
