/- Chapter 5: the program's SuitOrders. -/
import Derived.Test.YteojdlacdnfgiaaOrd5
import Derived.Test.YteojdlacdnfgiaaHlI5
namespace Go.Proofs.Yteojdlacdnfgiaa.Lib1
open Go.RowKit Go.Shelf
set_option maxRecDepth 100000
attribute [local go_sem] Oper.semAt_some

theorem isStrain (s : Int) (w : World) : Calls Try.prog 57 #[.int .i64 s] w fun e w' => e = .returned (.bool (inB s 0 4)) ∧ w = w' := by
  by_cases h0 : 0 ≤ s
  · by_cases h1 : s ≤ 4
    · have e : Hid (inB s 0 4 = true) := by show _ = _; unfold inB; simp [h0, h1]
      have h1' : s < 5 := by omega
      rw [e.out]
      go_enter Try.func57, Try.ntmps57
      go_wp2
      go_ret
      exact ⟨rfl, rfl⟩
    · have e : Hid (inB s 0 4 = false) := by show _ = _; unfold inB; simp [h1]
      have h1' : ¬ s < 5 := by omega
      rw [e.out]
      go_enter Try.func57, Try.ntmps57
      go_wp2
      go_ret
      exact ⟨rfl, rfl⟩
  · have e : Hid (inB s 0 4 = false) := by show _ = _; unfold inB; simp [h0]
    rw [e.out]
    go_enter Try.func57, Try.ntmps57
    go_wp2
    go_ret
    exact ⟨rfl, rfl⟩

section
variable {l B : Nat} {xs : List (List Int)} {J : List (List Int) → World → Prop} (hJ : Stays 81 B J)
  (hY : ∀ m pre (x : List Int) W, (∃ r, xs = pre ++ x :: r) → J pre W → YieldAt Fence.wide m Try.prog l (ordE x) W fun e W' => e = .returned (.bool true) ∧ J (pre ++ [x]) W' ∧ KeepT 81 W W')
include hJ hY
theorem complete (strain : Int) : ∀ (d place : Nat), d + place = 4 → ∀ (o : List Int) (pre : List (List Int)) (w : World), o.length = 4 → B ≤ w.heap.size → (∃ r, xs = pre ++ (compL strain d place o ++ r)) → J pre w →
    Calls Try.prog 101 #[.agg (ordA o), .int .i64 (place : Int), .int .i64 strain, .func (.yield l) #[] #[]] w fun e w' => e = .returned (.bool true) ∧ J (pre ++ compL strain d place o) w' ∧ KeepT 81 w w'
  | 0, place, h, o, pre, w, h4, _, hx, hj => by
    obtain rfl : place = 4 := by omega
    exact complete_end hJ hY strain o h4 pre w hx hj
  | d + 1, place, h, o, pre, w, h4, hB, hx, hj => by
    refine complete_step hJ strain place (by omega) (compL strain d (place + 1)) (fun o' pre' w' k1 k2 kx k3 => ?_) o h4 pre w hB hx hj
    have := complete strain d (place + 1) (by omega) o' pre' w' k1 k2 kx k3
    rw [show ((place + 1 : Nat) : Int) = (place : Int) + 1 by omega] at this
    exact this
end
theorem allowed_gives {strain : Int} (hs : inB strain 0 4 = true) {w : World} {b : Nat} (hb : w.cell? ⟨b, 0, none⟩ = some (.int .i64 strain)) :
    GivesAll Try.prog 100 #[.pointer (some ⟨b, 0, none⟩)] ordE 81 (ordS strain) w := fun l J W hW hJ hY h0 => by
  have hz : Hid (ordA [0, 0, 0, 0] = #[.int .i64 0, .int .i64 0, .int .i64 0, .int .i64 0]) := rfl
  have hc := (hW.cell (p := ⟨b, 0, none⟩) (lt_of_cell hb)).trans hb
  have hcm := Lib.hid (complete hJ hY strain 4 0 rfl [0, 0, 0, 0] [] W rfl hW.size ⟨[], by rw [comp_ord hs]; simp⟩ h0)
  rw [hz.out, comp_ord hs, List.nil_append] at hcm
  clear hJ hY h0 hz hb
  go_enter Try.func100, Try.ntmps100
  go_wp2_with fail
  refine hcm.out.mono ?_
  rintro e w' ⟨rfl, hj, _⟩
  go_wp2_with fail
  go_end0
  exact ⟨⟨_, rfl⟩, hj⟩
theorem allowedOrders (strain : Int) (w : World) :
    Calls Try.prog 62 #[.int .i64 strain] w fun e w' => e = .returned (.func (.func 100) #[] #[.pointer (some ⟨w.heap.size, 0, none⟩)]) ∧ w' = w.alloc (.cells #[.int .i64 strain] 2) := by
  go_enter Try.func62, Try.ntmps62
  go_wp2
  go_ret
  exact ⟨rfl, rfl⟩

end Go.Proofs.Yteojdlacdnfgiaa.Lib1
