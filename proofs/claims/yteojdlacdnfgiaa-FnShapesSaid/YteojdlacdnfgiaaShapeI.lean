/- Chapter 2: the program's ShapeOf. -/
import Derived.Test.YteojdlacdnfgiaaNum2
namespace Go.Proofs.Yteojdlacdnfgiaa.Lib1
open Go.RowKit
set_option maxRecDepth 100000

set_option maxHeartbeats 1000000 in
theorem shapeO (A : Option Addr) (n c : Nat) (zs : List Int) (lo hi : Nat) (w : World) (h : Rd w lo hi A n zs) (hz : handB zs = true) :
    Calls Try.prog 12 #[.slice A n c] w (RetV w (shapeF zs)) := by
  obtain ⟨i0, hi0, hz0, hz1, hz2⟩ := info_parts cells_info
  go_enter Try.func12, Try.ntmps12
  go_wp2_with (first | (go_at_call 47; refine (impl_IsHand A n c zs lo hi _ h).mono ?_; rintro e w' ⟨rfl, rfl⟩) | (at_make; refine wpList_make_own _ rfl _ _ 24 rfl w.heap.size 2 i0 (.int .i64 0) 1 Try.underlying24 hi0 hz0 hz1 _ _ _ 4 rfl rfl rfl (by rw [hz2]; decide) (by decide) (Nat.le_refl _) ?_; intro wm om gm; have bm : Below w.heap.size w wm := (Below.refl _ _).grown gm (Nat.le_refl _) (by intro k hk; cases hk)) | (go_at_call 48; refine (suitsOf A n c zs lo hi _ (h.still (Chg.of_below bm _ _)) hz).mono ?_; rintro e w1 ⟨rfl, c1⟩))
  have om' : OwnV wm w.heap.size _ [] := om
  go_loopw [3, 12] (fun v i wr => ∃ k : Nat, k ≤ 4 ∧ i = .int .i64 k ∧ OwnV wr w.heap.size v (shapeTo zs k) ∧ Below w.heap.size w wr) (fun _ i _ => 4 - (intOf i).toNat)
  case atStart => exact ⟨0, by omega, rfl, om'.chg c1 (Nat.zero_le _), Chg.above bm c1 bm.size (.inr rfl)⟩
  case round =>
    obtain ⟨k, hk, rfl, ho, hb⟩ := hrel
    by_cases hlt : k < 4
    · have hkl : (k : Int) < 4 := by omega
      have hat := row_index zs k hlt
      have hm := maskN_lt zs (k : Int)
      have ho' := Lib.hid (ones_mask hz (k : Int))
      have hlen : (shapeTo zs k).length ≤ 1048576 := by rw [shapeTo_len]; omega
      generalize maskN zs (k : Int) = m at hat hm ho'
      generalize hR : rowOf zs = R at hat
      clear hR
      go_wp2_with (first | (go_at_call 49; refine (length_ m _ hm).mono ?_; rintro e w2 ⟨rfl, c2⟩; have o1 := ho.chg c2 (Nat.zero_le _); have b1 := Chg.above hb c2 hb.size (.inr rfl); have z1 := b1.size; clear ho hb c2) | (at_builtin; refine wpList_push rfl (.tmp 15) (.tmp 18) rfl w.heap.size _ _ rfl o1 _ rfl hlen z1 ?_; intro v2 w3 o2 b2))
      have b3 := b1.trans b2
      clear o1 b1 b2
      go_roundw
      case rel => exact ⟨k + 1, by omega, by go_num, by rw [ho'.out] at o2; exact o2, b3⟩
      case measure => simp [intOf]; omega
    · obtain rfl : k = 4 := by omega
      rw [shapeTo_four] at ho
      go_wp2
      go_ret
      exact ⟨_, rfl, ho, hb⟩

theorem impl_ShapeOf : ImplS 12 shapeV := by
  intro A n c zs lo hi w h _ _ _
  cases hz : handB zs
  · rw [show shapeV zs = [] by simp [shapeV, hz]]
    go_enter Try.func12, Try.ntmps12
    go_wp2_with (go_at_call 47; refine (impl_IsHand A n c zs lo hi _ h).mono ?_; rintro e w' ⟨rfl, rfl⟩)
    go_ret
    exact RetS.of_own (OwnV.nil_ _ _) (Below.refl _ _)
  · rw [show shapeV zs = shapeF zs by simp [shapeV, hz]]
    exact (shapeO A n c zs lo hi w h hz).mono fun _ _ => RetS.of_V

end Go.Proofs.Yteojdlacdnfgiaa.Lib1
