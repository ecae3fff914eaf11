/- Contracts of the model's texts of hands of chapter 2: l02Text, HandText, ReadHand. -/
import Derived.Test.YtgoaikamolcffaaDoorS02p
import Derived.Test.YtgoaikamolcffaaDoorL02t
import Derived.Test.YtgoaikamolcffaaDoorText
import Derived.Deep.RegionWith
import Derived.Deep.DeepFit
namespace Go.Proofs.YtgoaikamolcffaaDoor.Lib1
open Go.RowKit

/-- A string with these bytes is handed back. -/
def RetT (w : World) (l : List UInt8) (e : Ending) (w' : World) : Prop := e = .returned (.string ⟨l.toArray⟩) ∧ Chg w w' 0 0

theorem bytes_ext {t : ByteArray} {l : List UInt8} (h : t.data.toList = l) : t = ⟨l.toArray⟩ := by
  subst h; cases t; simp
theorem size_list (t : ByteArray) : t.size = t.data.toList.length := by simp
theorem app_list (a b : ByteArray) : (a ++ b).data.toList = a.data.toList ++ b.data.toList := by simp
theorem one_byte (x : Int) : (strOfNums [x]).data.toList = [UInt8.ofNat x.toNat] := by simp [strOfNums]
theorem raf_byte (k : Nat) : UInt8.ofNat (rafV k).toNat = rankL.getD k 0 := by unfold rafV; simp

/-- The text of the first k suits, spades first. -/
def textTo (zs : List Int) : Nat → List UInt8
  | 0 => []
  | k + 1 => textTo zs k ++ segT (3 - (k : Int)) zs ++ if k < 3 then [46] else []
theorem textTo_four (zs : List Int) : textTo zs 4 = textH zs := by simp [textTo, textH]
theorem textTo_len {zs : List Int} (h : zs.length ≤ 13) : ∀ k, (textTo zs k).length ≤ 14 * k
  | 0 => by simp [textTo]
  | k + 1 => by
    have := textTo_len h k
    have := suitF_le (3 - (k : Int)) zs
    simp only [textTo, segT, List.length_append, List.length_map, List.length_reverse]
    split <;> simp <;> omega
theorem seg_step (L : List Int) (i : Nat) (h : i < L.length) : ((L.drop i).reverse.map rk) = ((L.drop (i + 1)).reverse.map rk) ++ [rk (L.getD i 0)] := by
  rw [List.drop_eq_getElem_cons h, List.reverse_cons, List.map_append]
  simp [List.getD, List.getElem?_eq_getElem h]

theorem conv1 (w : World) (x : Int) :
    (convert 22 9 (.slice (some ⟨w.heap.size, 0, none⟩) 1 1)).run Tryd.prog (w.alloc (.cells #[.int .u8 x] 5)).drew = .ok (.string (strOfNums [x])) (w.alloc (.cells #[.int .u8 x] 5)).drew := by
  refine run_convert_bytes_arg _ 22 5 Tryd.underlying22 Tryd.underlying5 _ 0 1 1 [x] rfl ?_ 9 Tryd.underlying9
  intro i hi
  match i, hi with
  | 0, _ => simp

set_option maxHeartbeats 3200000 in
/-- spec.l02Text of a hand -/
theorem l02Text (A : Option Addr) (n c : Nat) (zs : List Int) (lo hi : Nat) (w : World) (h : Rd w lo hi A n zs) (hh : handB zs = true) :
    Calls Tryd.prog 48 #[.slice A n c] w (RetT w (textH zs)) := by
  have HZ := Lib.hid (hand_nums h.1 hh)
  have hz13 := hand_len hh
  have hn : n ≤ 13 := by have := h.1; omega
  have HB := Lib.hid (hand_bounds hh).2
  clear hh
  go_enter Tryd.func48, Tryd.ntmps48
  go_wp2
  go_loopw [3, 4] (fun v i wr => ∃ (k : Nat) (t : ByteArray), k ≤ 4 ∧ i = .int .i64 (3 - (k : Int)) ∧ v = .string t ∧ Hid (t.data.toList = textTo zs k) ∧ Chg w wr 0 0) (fun _ i _ => (intOf i + 1).toNat)
  case atStart => exact ⟨0, ⟨#[]⟩, by omega, rfl, rfl, rfl, Chg.refl _ _ _⟩
  case round =>
    obtain ⟨k, t, hk, rfl, rfl, ht, hcr⟩ := hrel
    have htl := textTo_len hz13 k
    have hts : t.size ≤ 14 * k := by rw [size_list, ht.out]; exact htl
    clear htl
    by_cases hlt : k < 4
    · have hk0 : (0 : Int) ≤ 3 - (k : Int) := by omega
      have hr := h.still hcr
      go_wp2_with fail
      refine (l01Suit A n c (3 - (k : Int)) zs _ _ _ hr (by omega) HZ.out).mono ?_
      rintro e w2 ⟨D, dc, rfl, _, _, od, c2⟩
      have hc2 := hcr.trans c2
      have hrd := od.rd
      have HS : Hid (textTo zs (k + 1) = textTo zs k ++ ((suitF (3 - (k : Int)) zs).reverse.map rk) ++ if k < 3 then [46] else []) := rfl
      have HN : Hid (∀ j, j < (suitF (3 - (k : Int)) zs).length → 0 ≤ (suitF (3 - (k : Int)) zs).getD j 0 ∧ (suitF (3 - (k : Int)) zs).getD j 0 ≤ 51) := by
        intro j hj
        have hm : (suitF (3 - (k : Int)) zs).getD j 0 ∈ suitF (3 - (k : Int)) zs := by rw [getD_eq hj]; exact List.getElem_mem hj
        obtain ⟨q, hq, e⟩ := List.getElem_of_mem (suitF_sub _ _ _ hm)
        have := HB.out q hq
        rw [getD_eq hq, e] at this
        exact this
      have hm13 : (suitF (3 - (k : Int)) zs).length ≤ 13 := Nat.le_trans (suitF_le _ _) hz13
      generalize suitF (3 - (k : Int)) zs = L at HS HN hm13 hrd
      obtain ⟨m, hm⟩ : ∃ m, m = L.length := ⟨_, rfl⟩
      rw [← hm] at hrd hm13 HN ⊢
      have HM := Lib.hid hm
      clear hm od c2 hr hcr
      obtain ⟨wo, hwo⟩ : ∃ wo, wo = w2 := ⟨w2, rfl⟩
      subst hwo
      go_wp2_with fail
      go_loopw [3, 6] (fun v i wr => ∃ (j : Nat) (u : ByteArray), j ≤ m ∧ i = .int .i64 ((j : Int) - 1) ∧ v = .string u ∧ Hid (u.data.toList = textTo zs k ++ ((L.drop j).reverse.map rk)) ∧ Chg wo wr 0 0) (fun _ i _ => (intOf i + 1).toNat)
      case atStart => exact ⟨m, t, Nat.le_refl _, rfl, rfl, by show _ = _; rw [ht.out, List.drop_of_length_le (by rw [HM.out]; exact Nat.le_refl _)]; simp, Chg.refl _ _ _⟩
      case round =>
        obtain ⟨j, u, hj, rfl, rfl, hu, hcq⟩ := hrel
        have hus : u.size ≤ 14 * k + 13 := by
          rw [size_list, hu.out, List.length_append, ← ht.out, ← size_list]
          simp only [List.length_map, List.length_reverse, List.length_drop]
          have := HM.out
          omega
        by_cases hj0 : 0 < j
        · have hjI : (0 : Int) ≤ (j : Int) - 1 := by omega
          have hjI2 : (j : Int) - 1 < (m : Int) := by omega
          have e1 : ((j : Int) - 1).toNat = j - 1 := by omega
          obtain ⟨b, off, rfl, _, _, hcl⟩ := (hrd.still hcq).2 (by omega)
          have hcj := hcl (j - 1) (by omega)
          obtain ⟨z0, z1⟩ := HN.out (j - 1) (by omega)
          have HU := Lib.hid (seg_step L (j - 1) (by rw [← HM.out]; omega))
          rw [show j - 1 + 1 = j by omega] at HU
          generalize L.getD (j - 1) 0 = z at hcj z0 z1 HU
          have a0 : 0 ≤ z % 13 := by omega
          have a1 : z % 13 < 13 := by omega
          have q2 : z.tmod 13 = z % 13 := Int.tmod_eq_emod_of_nonneg z0
          have kc := conv1 wr
          have ka : ∀ (y : Int) (W : World), (Op.stringOp .add u (strOfNums [y])).run Tryd.prog W = .ok (.string (u ++ strOfNums [y])) W := fun y W => run_string_add_sum W u _ (by rw [strOfNums_size]; simp; omega)
          clear hcl
          go_wp2_with fail
          go_region_with (go_at_call 31; refine (l01Ranks _).mono ?_; rintro e w' ⟨rfl, rfl⟩)
          all_goals
            go_wp2
            go_roundw
            case rel =>
              refine ⟨j - 1, _, by omega, by rw [show ((j - 1 : Nat) : Int) = (j : Int) - 1 by omega], rfl, ?_, hcq.trans (Chg.alloc_drew _ _ _ _)⟩
              show _ = _
              rw [app_list, hu.out, HU.out, List.append_assoc, one_byte, raf_eq, raf_byte]
              rfl
            case measure => simp [intOf]; omega
        · obtain rfl : j = 0 := by omega
          rw [List.drop_zero] at hu
          have hjI : ¬ (0 : Int) ≤ ((0 : Nat) : Int) - 1 := by omega
          have hcw := hc2.trans hcq
          by_cases hk3 : k < 3
          · have hk3I : (0 : Int) < 3 - (k : Int) := by omega
            have ka : ∀ (W : World), (Op.stringOp .add u ⟨#[46]⟩).run Tryd.prog W = .ok (.string (u ++ ⟨#[46]⟩)) W := fun W => run_string_add_sum W u _ (by show _ + 1 ≤ _; omega)
            rw [if_pos hk3] at HS
            go_wp2_with fail
            go_roundw
            case rel =>
              refine ⟨k + 1, _, by omega, by rw [show (3 : Int) - ((k + 1 : Nat) : Int) = 3 - (k : Int) - 1 by omega], rfl, ?_, hcw⟩
              show _ = _
              rw [app_list, hu.out, HS.out]
            case measure => simp [intOf]; omega
          · have hk3I : ¬ (0 : Int) < 3 - (k : Int) := by omega
            rw [if_neg hk3, List.append_nil] at HS
            go_wp2_with fail
            go_roundw
            case rel => exact ⟨k + 1, _, by omega, by rw [show (3 : Int) - ((k + 1 : Nat) : Int) = 3 - (k : Int) - 1 by omega], rfl, by show _ = _; rw [hu.out, HS.out], hcw⟩
            case measure => simp [intOf]; omega
    · obtain rfl : k = 4 := by omega
      rw [textTo_four] at ht
      have hk0 : ¬ (0 : Int) ≤ 3 - ((4 : Nat) : Int) := by omega
      go_wp2
      go_ret
      exact ⟨by rw [bytes_ext ht.out]; rfl, hcr⟩

/-- spec.HandText -/
theorem spec_HandText (A : Option Addr) (n c : Nat) (zs : List Int) (lo hi : Nat) (w : World) (h : Rd w lo hi A n zs) (hn : n ≤ 1048576) :
    Calls Tryd.prog 29 #[.slice A n c] w (RetT w (handText zs)) := by
  cases hh : handB zs with
  | false =>
    rw [show handText zs = [] by simp [handText, hh]]
    go_enter Tryd.func29, Tryd.ntmps29
    go_wp2_with (go_at_call 8; refine (spec_IsHand _ _ _ zs lo hi _ h hn).mono ?_; rintro e w' ⟨rfl, hc⟩)
    go_ret
    exact ⟨rfl, hc⟩
  | true =>
    rw [show handText zs = textH zs by simp [handText, hh]]
    have HH := Lib.hid hh
    go_enter Tryd.func29, Tryd.ntmps29
    go_wp2_with fail
    refine (spec_IsHand _ _ _ zs lo hi _ h hn).mono ?_
    rintro e w1 ⟨rfl, c1⟩
    rw [HH.out]
    go_wp2_with fail
    refine (l02Text A n c zs lo hi _ (h.still c1) HH.out).mono ?_
    rintro e w2 ⟨rfl, c2⟩
    go_wp2_with fail
    go_ret
    exact ⟨rfl, c1.trans c2⟩

end Go.Proofs.YtgoaikamolcffaaDoor.Lib1
