/- Chapter 5: the model's l05Holders, l05Lists, HolderLists. -/
import Derived.Test.YteojdlacdnfgiaaLists5
import Derived.Test.YteojdlacdnfgiaaGrpM5
namespace Go.Proofs.Yteojdlacdnfgiaa.Lib1
open Go.RowKit
set_option maxRecDepth 100000

set_option maxHeartbeats 1000000 in
/-- spec.l05Holders -/
theorem l05Holders (A : Option Addr) (n c q : Nat) (zss : List (List Int)) (lo hi : Nat) (w : World) (h : RdR w lo hi A n zss) (hn : n ≤ 1048576) (hl : ∀ j, j < n → (zss.getD j []).length ≤ 1048576) (hq : q < 4) :
    Calls Try.prog 139 #[.agg #[.slice A n c], .int .i64 (q : Int)] w (RetV w (listQ (holderF zss) q)) := by
  have hz0 : Hid ((w.alloc (.cells #[.slice A n c] 36)).heap.size = w.heap.size + 1) := by show _ = _; simp
  have ca := Lib.hid (Chg.of_alloc w (.cells #[.slice A n c] 36) 0 0)
  have hbx := Lib.hid (box_at w (.slice A n c) 36)
  go_enter Try.func139, Try.ntmps139
  go_wp2
  have hmade := Lib.hid (OwnV.made (w.alloc (.cells #[.slice A n c] 36)) (base := w.heap.size + 1) (by have := hz0.out; omega))
  rw [hz0.out] at hmade
  have hb0 := Lib.hid ((Below.refl (w.heap.size + 1) (w.alloc (.cells #[.slice A n c] 36))).alloc (by have := hz0.out; omega) (.cells #[] 2))
  go_loopw [5, 6] (fun v i wr => ∃ (k : Nat) (y : Int), k ≤ 13 ∧ i = .int .i64 y ∧ Hid (y = 12 - (k : Int)) ∧ OwnV wr (w.heap.size + 1) v (listTo (holderF zss) q k) ∧ Below (w.heap.size + 1) (w.alloc (.cells #[.slice A n c] 36)) wr) (fun _ i _ => (intOf i + 1).toNat)
  case atStart => exact ⟨0, 12, by omega, rfl, rfl, hmade.out, hb0.out⟩
  case round =>
    clear hmade hb0
    obtain ⟨k, y, hk, rfl, hy, ho, hb⟩ := hrel
    have cw := Lib.hid (Chg.of_below (ca.out.to_below.trans (hb.mono (Nat.le_succ _))) 0 0)
    have q0 := cell_below hbx.out hb (Nat.lt_succ_self _)
    have hzr : w.heap.size + 1 ≤ wr.heap.size := by have := hb.size; rw [hz0.out] at this; exact this
    by_cases hlt : k < 13
    · have y0 : 0 ≤ y := by have := hy.out; omega
      have y1 : y ≤ 12 := by have := hy.out; omega
      have HS := Lib.hid (listTo_succ (holderF zss) q k)
      have hlen : (listTo (holderF zss) q k).length ≤ 1048576 := by have := listTo_len (holderF zss) q k; omega
      have hyy : Hid (13 * (q : Int) + (12 - (k : Int)) = 13 * (q : Int) + y) := by show _ = _; rw [hy.out]
      rw [hyy.out] at HS
      generalize listTo (holderF zss) q k = L at ho HS hlen
      go_wp2_with fail
      refine (l03Holder A n c (13 * (q : Int) + y) zss lo hi _ (h.still cw.out) hn hl).mono ?_
      rintro e w1 ⟨rfl, c1⟩
      have o1 := ho.still c1
      have b1 := hb.trans (c1.to_below.mono hzr)
      have z1 := Nat.le_trans hzr c1.size
      clear ho hb c1 q0 hyy
      generalize holderF zss (13 * (q : Int) + y) = v at HS
      by_cases hv : 0 ≤ v
      · have HE : Hid (listTo (holderF zss) q (k + 1) = L ++ [v]) := by show _ = _; rw [HS.out, if_pos hv]
        go_wp2_with (at_builtin; refine wpList_push rfl (.tmp 21) (.tmp 23) rfl (w.heap.size + 1) _ L (by rfl) o1 v (by rfl) hlen z1 ?_; intro v3 w3 o3 b3)
        rw [← HE.out] at o3
        have b4 := b1.trans b3
        clear HE HS
        go_roundw
        case rel => exact ⟨k + 1, y - 1, by omega, rfl, by have := hy.out; show _ = _; omega, o3, b4⟩
        case measure => simp [intOf]; omega
      · have HE : Hid (listTo (holderF zss) q (k + 1) = L) := by show _ = _; rw [HS.out, if_neg hv, List.append_nil]
        rw [← HE.out] at o1
        clear HE HS
        go_wp2_with fail
        go_roundw
        case rel => exact ⟨k + 1, y - 1, by omega, rfl, by have := hy.out; show _ = _; omega, o1, b1⟩
        case measure => simp [intOf]; omega
    · obtain rfl : k = 13 := by omega
      have hy0 : ¬ 0 ≤ y := by have := hy.out; omega
      rw [listTo_all] at ho
      go_wp2
      go_ret
      exact ⟨_, rfl, ho.more (Nat.le_succ _), cw.out.to_below⟩

def RetVQ (w : World) (zss : List (List Int)) (e : Ending) (w' : World) : Prop := ∃ v, e = .returned v ∧ OwnVQ w' w.heap.size v zss ∧ Below w.heap.size w w'
set_option maxHeartbeats 1000000 in
/-- spec.l05Lists -/
theorem l05Lists (A : Option Addr) (n c : Nat) (zss : List (List Int)) (lo hi : Nat) (w : World) (h : RdR w lo hi A n zss) (hn : n ≤ 1048576) (hl : ∀ j, j < n → (zss.getD j []).length ≤ 1048576) :
    Calls Try.prog 114 #[.agg #[.slice A n c]] w (RetVQ w (listsTo (holderF zss) 4)) := by
  have hz0 : Hid ((w.alloc (.cells #[.slice A n c] 36)).heap.size = w.heap.size + 1) := by show _ = _; simp
  have ca := Lib.hid (Chg.of_alloc w (.cells #[.slice A n c] 36) 0 0)
  have hbx := Lib.hid (box_at w (.slice A n c) 36)
  go_enter Try.func114, Try.ntmps114
  go_wp2
  have hmade := Lib.hid (OwnVQ.made (w.alloc (.cells #[.slice A n c] 36)) (base := w.heap.size + 1) (by have := hz0.out; omega))
  rw [hz0.out] at hmade
  have hb0 := Lib.hid ((Below.refl (w.heap.size + 1) (w.alloc (.cells #[.slice A n c] 36))).alloc (by have := hz0.out; omega) (.cells #[] 24))
  go_loopw [3, 4] (fun v i wr => ∃ q : Nat, q ≤ 4 ∧ i = .int .i64 q ∧ OwnVQ wr (w.heap.size + 1) v (listsTo (holderF zss) q) ∧ Below (w.heap.size + 1) (w.alloc (.cells #[.slice A n c] 36)) wr) (fun _ i _ => 4 - (intOf i).toNat)
  case atStart => exact ⟨0, by omega, rfl, hmade.out, hb0.out⟩
  case round =>
    clear hmade hb0
    obtain ⟨q, hq, rfl, ho, hb⟩ := hrel
    have cw := Lib.hid (Chg.of_below (ca.out.to_below.trans (hb.mono (Nat.le_succ _))) 0 0)
    have q0 := cell_below hbx.out hb (Nat.lt_succ_self _)
    have hzr : w.heap.size + 1 ≤ wr.heap.size := by have := hb.size; rw [hz0.out] at this; exact this
    by_cases hlt : q < 4
    · have hql : (q : Int) < 4 := by omega
      have hlen : (listsTo (holderF zss) q).length ≤ 1048576 := by rw [listsTo_length]; omega
      have HS : Hid (listsTo (holderF zss) (q + 1) = listsTo (holderF zss) q ++ [listQ (holderF zss) q]) := rfl
      generalize listsTo (holderF zss) q = L at ho HS hlen
      go_wp2_with fail
      refine (l05Holders A n c q zss lo hi _ (h.still cw.out) hn hl hlt).mono ?_
      rintro e w1 ⟨v1, rfl, o1, b1⟩
      have hk1 : Hid (∀ k', w.heap.size + 1 ≤ k' → k' < wr.heap.size → w1.heap[k']? = wr.heap[k']?) := fun k' _ hlt' => b1.block k' hlt'
      have hz1 := Lib.hid b1.size
      have hb1 := Lib.hid (hb.trans (b1.mono hzr))
      have hu := Lib.hid o1
      obtain ⟨A1, c1, rfl, _, _, _⟩ := o1.form
      generalize listQ (holderF zss) q = row at hu HS
      clear b1 o1 hb q0
      go_wp2_with (at_builtin; refine wpList_pushVQ (w := wr) rfl (.tmp 10) (.tmp 14) rfl (w.heap.size + 1) _ L (by rfl) ho (by exact hk1.out) (by exact hz1.out) _ row (by exact hu.out) w1.heap.size (by rfl) (by rfl) hlen hzr ?_; intro v4 w4 o4 b4)
      rw [← HS.out] at o4
      go_roundw
      case rel => exact ⟨q + 1, by omega, by go_num, o4, hb1.out.trans b4⟩
      case measure => simp [intOf]; omega
    · obtain rfl : q = 4 := by omega
      go_wp2
      go_ret
      exact ⟨_, rfl, ho.more (Nat.le_succ _), cw.out.to_below⟩

def RetQ1 (w : World) (zss : List (List Int)) (e : Ending) (w' : World) : Prop :=
  ∃ A c, e = .returned (.slice A zss.length c) ∧ zss.length ≤ c ∧ OwnR w' w.heap.size w'.heap.size A zss.length zss ∧ Chg w w' 0 0
theorem RetQ1.of_eq {w w' : World} {zss zss' : List (List Int)} {e : Ending} (h1 : zss' = zss) (h : RetQ1 w zss e w') : RetQ1 w zss' e w' := by subst h1; exact h

end Go.Proofs.Yteojdlacdnfgiaa.Lib1
