/- Chapter 3, lists alone: the symmetries of deals can be undone. No function of the program. -/
import Derived.Test.YtdfmkikngifjmaaS03r
namespace Go.Proofs.Ytdfmkikngifjmaa.Lib1
open Go.RowKit
set_option maxRecDepth 100000

theorem four_rows {zss : List (List Int)} (h : zss.length = 4) : ∃ a b c d, zss = [a, b, c, d] := by
  match zss, h with
  | [a, b, c, d], _ => exact ⟨a, b, c, d, rfl⟩
theorem deal_four (a b c d : List Int) : dealB [a, b, c, d] = true ↔ (handB a = true ∧ handB b = true ∧ handB c = true ∧ handB d = true) ∧ (b.length = a.length ∧ c.length = a.length ∧ d.length = a.length) ∧ (a ++ (b ++ (c ++ d))).Nodup := by
  rw [deal_iff]
  have hf : [a, b, c, d].flatten = a ++ (b ++ (c ++ d)) := by simp
  rw [hf]
  constructor
  · rintro ⟨_, hr, hn⟩
    have h0 := hr 0 (by omega)
    have h1 := hr 1 (by omega)
    have h2 := hr 2 (by omega)
    have h3 := hr 3 (by omega)
    exact ⟨⟨h0.1, h1.1, h2.1, h3.1⟩, ⟨h1.2, h2.2, h3.2⟩, hn⟩
  · rintro ⟨⟨h0, h1, h2, h3⟩, ⟨l1, l2, l3⟩, hn⟩
    refine ⟨rfl, fun t ht => ?_, hn⟩
    have hq : t = 0 ∨ t = 1 ∨ t = 2 ∨ t = 3 := by omega
    rcases hq with rfl | rfl | rfl | rfl
    · exact ⟨h0, rfl⟩
    · exact ⟨h1, l1⟩
    · exact ⟨h2, l2⟩
    · exact ⟨h3, l3⟩
/-- A deal turned by one seat. -/
theorem rot_one (a b c d : List Int) : rotTo [a, b, c, d] 1 4 = [d, a, b, c] := rfl
theorem rot_two (a b c d : List Int) : rotTo [a, b, c, d] 2 4 = [c, d, a, b] := rfl
theorem rot_three (a b c d : List Int) : rotTo [a, b, c, d] 3 4 = [b, c, d, a] := rfl
theorem rot_none (a b c d : List Int) : rotTo [a, b, c, d] 0 4 = [a, b, c, d] := rfl
theorem deal_turn {a b c d : List Int} (h : dealB [a, b, c, d] = true) : dealB [d, a, b, c] = true := by
  rw [deal_four] at h ⊢
  obtain ⟨⟨h0, h1, h2, h3⟩, ⟨l1, l2, l3⟩, hn⟩ := h
  refine ⟨⟨h3, h0, h1, h2⟩, ⟨by omega, by omega, by omega⟩, ?_⟩
  have p : (a ++ (b ++ (c ++ d))).Perm (d ++ (a ++ (b ++ c))) := by
    have := List.perm_append_comm (l₁ := a ++ (b ++ c)) (l₂ := d)
    simpa using this
  exact p.nodup_iff.1 hn
theorem deal_turns {zss : List (List Int)} (h : dealB zss = true) {k : Int} (h0 : 0 ≤ k) (h3 : k ≤ 3) : dealB (rotTo zss k 4) = true := by
  obtain ⟨a, b, c, d, rfl⟩ := four_rows ((deal_iff zss).1 h).1
  have hq : k = 0 ∨ k = 1 ∨ k = 2 ∨ k = 3 := by omega
  rcases hq with rfl | rfl | rfl | rfl
  · rw [rot_none]; exact h
  · rw [rot_one]; exact deal_turn h
  · rw [rot_two]; exact deal_turn (deal_turn h)
  · rw [rot_three]; exact deal_turn (deal_turn (deal_turn h))
theorem rotV_yes {zss : List (List Int)} (h : dealB zss = true) {k : Int} (h0 : 0 ≤ k) (h3 : k ≤ 3) : rotV zss k = rotTo zss k 4 ∧ rotE zss k = 0 := by
  have hk : inB k 0 3 = true := inB_true ⟨h0, h3⟩
  simp [rotV, rotE, h, hk]
/-- Four rotations by one seat restore a deal. -/
theorem rot_four {zss : List (List Int)} (h : dealB zss = true) : rotV (rotV (rotV (rotV zss 1) 1) 1) 1 = zss := by
  obtain ⟨a, b, c, d, rfl⟩ := four_rows ((deal_iff zss).1 h).1
  have d1 := deal_turn h
  have d2 := deal_turn d1
  have d3 := deal_turn d2
  rw [(rotV_yes h (by omega) (by omega)).1, rot_one, (rotV_yes d1 (by omega) (by omega)).1, rot_one, (rotV_yes d2 (by omega) (by omega)).1, rot_one, (rotV_yes d3 (by omega) (by omega)).1, rot_one]
/-- A rotation by three seats and one by one restore a deal. -/
theorem rot_back {zss : List (List Int)} (h : dealB zss = true) : rotV (rotV zss 3) 1 = zss := by
  have hd := deal_turns h (k := 3) (by omega) (by omega)
  rw [(rotV_yes h (by omega) (by omega)).1, (rotV_yes hd (by omega) (by omega)).1]
  obtain ⟨a, b, c, d, rfl⟩ := four_rows ((deal_iff zss).1 h).1
  rw [rot_three, rot_one]
theorem mirror_four (a b c d : List Int) : swapR [a, b, c, d] 1 3 = [a, d, c, b] := rfl
theorem deal_mirror {zss : List (List Int)} (h : dealB zss = true) : dealB (swapR zss 1 3) = true := by
  obtain ⟨a, b, c, d, rfl⟩ := four_rows ((deal_iff zss).1 h).1
  rw [mirror_four]
  rw [deal_four] at h ⊢
  obtain ⟨⟨h0, h1, h2, h3⟩, ⟨l1, l2, l3⟩, hn⟩ := h
  refine ⟨⟨h0, h3, h2, h1⟩, ⟨by omega, by omega, by omega⟩, ?_⟩
  have p : (b ++ (c ++ d)).Perm (d ++ (c ++ b)) := by
    have q1 : (b ++ (c ++ d)).Perm ((c ++ d) ++ b) := List.perm_append_comm
    have q2 : ((c ++ d) ++ b).Perm ((d ++ c) ++ b) := List.Perm.append_right b List.perm_append_comm
    have := q1.trans q2
    simpa using this
  exact (List.Perm.append_left a p).nodup_iff.1 hn
/-- Two mirror images restore a deal. -/
theorem mirror_twice {zss : List (List Int)} (h : dealB zss = true) : mirrorV (mirrorV zss) = zss := by
  have hd := deal_mirror h
  rw [show mirrorV zss = swapR zss 1 3 by simp [mirrorV, h], show mirrorV (swapR zss 1 3) = swapR (swapR zss 1 3) 1 3 by simp [mirrorV, hd]]
  obtain ⟨a, b, c, d, rfl⟩ := four_rows ((deal_iff zss).1 h).1
  rw [mirror_four, mirror_four]

end Go.Proofs.Ytdfmkikngifjmaa.Lib1
