/- The library's Concat of hands that lie in a row, at any place of its block. -/
import Derived.Test.YteglffbeldlibaaImplA
namespace Go.Proofs.Yteglffbeldlibaa.Lib1
open Go.RowKit
set_option maxRecDepth 100000

set_option maxHeartbeats 1600000 in
/-- slices.Concat of m parts that lie in the block g from off on. -/
theorem ConcatO (g off m c : Nat) (pa : Nat → Option Addr) (pn pc : Nat → Nat) (pz : Nat → List Int) (w : World)
    (hcell : ∀ j, j < m → w.cell? ⟨g, off + j, none⟩ = some (.slice (pa j) (pn j) (pc j))) (hrd : ∀ j, j < m → Rd w 0 w.heap.size (pa j) (pn j) (pz j)) (hpc : ∀ j, j < m → pa j = none → pc j = 0)
    (hm : m ≤ 1048576) (hn : (catTo pz m).length ≤ 1048576) :
    Calls Try.prog 70 #[.slice (some ⟨g, off, none⟩) m c] w (RetV w (catTo pz m)) := by
  have HC := Lib.hid hcell
  have HR := Lib.hid hrd
  have HP := Lib.hid hpc
  clear hcell hrd hpc
  go_enter Try.func70, Try.ntmps70
  go_wp2
  go_loop [3, 11] (fun s i => ∃ k : Nat, k ≤ m ∧ i = .int .i64 k ∧ s = .int .i64 ((catTo pz k).length : Int)) (fun _ i => m - (intOf i).toNat)
  case atStart => exact ⟨0, Nat.zero_le _, rfl, rfl⟩
  case round =>
    obtain ⟨k, hk, rfl, rfl⟩ := hrel
    have hle := catTo_le pz hk
    by_cases hlt : k < m
    · have hck := HC.out k hlt
      have hlk : (k : Int) < (m : Int) := by omega
      have hsum : (catTo pz (k + 1)).length = (catTo pz k).length + pn k := by rw [catTo_succ, List.length_append, (HR.out k hlt).1]
      have hle2 := catTo_le pz (show k + 1 ≤ m from hlt)
      have HS := Lib.hid hsum
      have hb1 : (catTo pz k).length + pn k ≤ 1048576 := by omega
      clear hsum hle2
      generalize pa k = ak at hck
      generalize pc k = ck at hck
      generalize pn k = nk at hck HS hb1
      generalize (catTo pz k).length = lk at hle HS hb1
      go_wp2
      go_round
      case rel => exact ⟨k + 1, by omega, by go_num, by rw [HS.out]; go_num⟩
      case measure => simp [intOf]; omega
    · obtain rfl : k = m := by omega
      go_wp2_with (go_at_call 122; refine (Grow_nil _ _ hn).mono ?_; rintro e w1 ⟨v1, rfl, ho1, hb1⟩)
      go_loopw [6, 27] (fun v i wr => ∃ j : Nat, j ≤ k ∧ i = .int .i64 j ∧ OwnV wr w.heap.size v (catTo pz j) ∧ Below w.heap.size w wr) (fun _ i _ => k - (intOf i).toNat)
      case atStart => exact ⟨0, Nat.zero_le _, rfl, ho1, hb1⟩
      case round =>
        obtain ⟨j, hj, rfl, ho, hb⟩ := hrel
        by_cases hlt2 : j < k
        · have hck := HC.out j hlt2
          have hgl := lt_of_cell hck
          have hck2 : wr.cell? ⟨g, off + j, none⟩ = some (.slice (pa j) (pn j) (pc j)) := by rw [World.cell?_of_block (hb.block g hgl)]; exact hck
          have hlk : (j : Int) < (k : Int) := by omega
          have hr := (HR.out j hlt2).below hb (Nat.le_refl _)
          have hp := Lib.hid (HP.out j hlt2)
          have hsum := Lib.hid (catTo_succ pz j)
          have hln : (catTo pz j).length + pn j ≤ 1048576 := by
            have e1 := catTo_le pz (show j + 1 ≤ k from hlt2)
            rw [catTo_succ, List.length_append, (HR.out j hlt2).1] at e1
            omega
          have hsize := hb.size
          clear hck
          generalize pa j = ak at hck2 hr hp
          generalize pc j = ck at hck2 hp
          generalize pn j = nk at hck2 hr hln
          go_wp2_with (at_builtin; refine wpList_cat rfl _ _ rfl w.heap.size _ _ rfl ho 0 w.heap.size ak nk ck (pz j) rfl hp.out hr hln hsize ?_; intro v' w2 ho2 hb2)
          rw [← hsum.out] at ho2
          have hb3 := hb.trans hb2
          clear ho hb hb2 hr
          go_roundw
          case rel => exact ⟨j + 1, by omega, by go_num, ho2, hb3⟩
          case measure => simp [intOf]; omega
        · obtain rfl : j = k := by omega
          go_wp2
          go_ret
          exact ⟨_, rfl, ho, hb⟩
theorem catTo_rows (zss : List (List Int)) : catTo (fun j => zss.getD j []) zss.length = zss.flatten := by
  have h : ∀ k, k ≤ zss.length → catTo (fun j => zss.getD j []) k = (zss.take k).flatten := by
    intro k
    induction k with
    | zero => intro _; simp [catTo]
    | succ k ih => intro hk; rw [catTo_succ, ih (by omega), take_row (by omega), List.flatten_append]; simp
  rw [h _ (Nat.le_refl _), List.take_length]

end Go.Proofs.Yteglffbeldlibaa.Lib1
