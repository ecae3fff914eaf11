/- Contracts of the model's functions of chapter 2 that return numbers and lists: shapes, points, controls, losers, quick tricks, honors. -/
import Derived.Test.YtgoaikamolcffaaL02b
namespace Go.Proofs.Ytgoaikamolcffaa.Lib1
open Go.RowKit

/-- A number is handed back; what was there is as it was. -/
def RetI (w : World) (v : Int) (e : Ending) (w' : World) : Prop := e = .returned (.int .i64 v) ∧ Chg w w' 0 0

def shapeTo (zs : List Int) : Nat → List Int
  | 0 => []
  | k + 1 => shapeTo zs k ++ [((suitF (k : Int) zs).length : Int)]
theorem shapeTo_len (zs : List Int) : ∀ k, (shapeTo zs k).length = k
  | 0 => rfl
  | k + 1 => by simp [shapeTo, shapeTo_len zs k]
theorem shapeTo_four (zs : List Int) : shapeTo zs 4 = shapeF zs := by simp [shapeTo, shapeF]

set_option maxHeartbeats 1000000 in
/-- spec.l02Shape -/
theorem l02Shape (A : Option Addr) (n c : Nat) (zs : List Int) (lo hi : Nat) (w : World) (h : Rd w lo hi A n zs) (hn : n ≤ 1048576) (hz : ∀ j, j < n → 0 ≤ zs.getD j 0 ∧ zs.getD j 0 ≤ 51) :
    Calls Try.prog 50 #[.slice A n c] w (RetV w (shapeF zs)) := by
  have HZ := Lib.hid hz
  have ha := h.all
  clear hz h
  go_enter Try.func50, Try.ntmps50
  go_wp2
  go_loopw [3, 4] (fun v i wr => ∃ k : Nat, k ≤ 4 ∧ i = .int .i64 k ∧ OwnV wr w.heap.size v (shapeTo zs k) ∧ Below w.heap.size w wr) (fun _ i _ => 4 - (intOf i).toNat)
  case atStart => exact ⟨0, by omega, rfl, OwnV.made w (Nat.le_refl _), (Below.refl _ _).alloc (Nat.le_refl _) _⟩
  case round =>
    obtain ⟨k, hk, rfl, ho, hb⟩ := hrel
    by_cases hlt : k < 4
    · have hltI : (k : Int) < 4 := by omega
      have hr := ha.below hb (Nat.le_refl _)
      have hlen : (shapeTo zs k).length ≤ 1048576 := by rw [shapeTo_len]; omega
      go_wp2_with fail
      refine (l01Suit A n c (k : Int) zs _ _ _ hr hn HZ.out).mono ?_
      rintro e w1 ⟨B, bc, rfl, _, _, _, c1⟩
      have o1 := ho.chg c1 (Nat.zero_le _)
      have b1 := Chg.above hb c1 hb.size (.inr rfl)
      have z1 := b1.size
      clear ho hb c1 hr
      go_wp2_with (at_builtin; refine wpList_push rfl (.tmp 10) (.tmp 15) rfl w.heap.size _ _ rfl o1 _ rfl hlen z1 ?_; intro v2 w2 o2 b2)
      have b3 := b1.trans b2
      clear o1 b1 b2
      go_roundw
      case rel => exact ⟨k + 1, by omega, by go_num, o2, b3⟩
      case measure => simp [intOf]; omega
    · obtain rfl : k = 4 := by omega
      rw [shapeTo_four] at ho
      go_wp2
      go_ret
      exact ⟨_, rfl, ho, hb⟩

theorem RetV.still {w w1 w' : World} {zs : List Int} {e : Ending} (c : Chg w w1 0 0) (h : RetV w1 zs e w') : RetS w zs e w' := RetS.of_later c (RetS.of_V h)
theorem hand_nums {zs : List Int} {n : Nat} (hl : zs.length = n) (h : handB zs = true) : ∀ j, j < n → 0 ≤ zs.getD j 0 ∧ zs.getD j 0 ≤ 51 := by
  intro j hj; exact (hand_bounds h).2 j (by omega)

set_option maxHeartbeats 1000000 in
/-- spec.ShapeOf -/
theorem spec_ShapeOf (A : Option Addr) (n c : Nat) (zs : List Int) (lo hi : Nat) (w : World) (h : Rd w lo hi A n zs) (hn : n ≤ 1048576) :
    Calls Try.prog 26 #[.slice A n c] w (RetS w (shapeV zs)) := by
  cases hh : handB zs with
  | false =>
    rw [show shapeV zs = [] by simp [shapeV, hh]]
    go_enter Try.func26, Try.ntmps26
    go_wp2_with (go_at_call 17; refine (spec_IsHand _ _ _ zs lo hi _ h hn).mono ?_; rintro e w' ⟨rfl, hc⟩)
    go_ret
    exact RetS.empty_made _ _ hc
  | true =>
    rw [show shapeV zs = shapeF zs by simp [shapeV, hh]]
    have HB := Lib.hid (hand_nums h.1 hh)
    go_enter Try.func26, Try.ntmps26
    go_wp2_with (first | (go_at_call 17; refine (spec_IsHand _ _ _ zs lo hi _ h hn).mono ?_; rintro e w' ⟨rfl, hc⟩) | (go_at_call 50; refine (l02Shape _ _ _ zs lo hi _ (h.still hc) hn HB.out).mono ?_; rintro e w' ⟨v, rfl, hx⟩))
    go_ret
    exact RetV.still hc ⟨v, rfl, hx⟩

theorem sumF_take (f : Int → Int) {zs : List Int} {k : Nat} (h : k < zs.length) : sumF f (zs.take (k + 1)) = sumF f (zs.take k) + f (zs.getD k 0) := by rw [take_snoc zs k h, sumF_snoc]
theorem sumF_bound {f : Int → Int} (hf : ∀ z, 0 ≤ f z ∧ f z ≤ 12) : ∀ l : List Int, 0 ≤ sumF f l ∧ sumF f l ≤ 12 * l.length
  | [] => by simp [sumF]
  | z :: l => by have := sumF_bound hf l; have := hf z; simp only [sumF, List.length_cons]; omega
theorem point_if (z : Int) : pointF z = if 8 < z % 13 then z % 13 - 8 else 0 := by unfold pointF; split <;> omega
theorem contr_if (z : Int) : contrF z = if 10 < z % 13 then z % 13 - 10 else 0 := by unfold contrF; split <;> omega
theorem point_bound (z : Int) : 0 ≤ pointF z ∧ pointF z ≤ 12 := by unfold pointF; omega
theorem contr_bound (z : Int) : 0 ≤ contrF z ∧ contrF z ≤ 12 := by unfold contrF; omega
theorem hon_bound (t z : Int) : 0 ≤ honF t z ∧ honF t z ≤ 12 := by unfold honF; split <;> omega

set_option maxHeartbeats 1000000 in
/-- spec.HighCardPoints -/
theorem spec_HighCardPoints (A : Option Addr) (n c : Nat) (zs : List Int) (lo hi : Nat) (w : World) (h : Rd w lo hi A n zs) (hn : n ≤ 1048576) :
    Calls Try.prog 25 #[.slice A n c] w (RetI w (hcpV zs)) := by
  cases hh : handB zs with
  | false =>
    rw [show hcpV zs = -1 by simp [hcpV, hh]]
    go_enter Try.func25, Try.ntmps25
    go_wp2_with (go_at_call 17; refine (spec_IsHand _ _ _ zs lo hi _ h hn).mono ?_; rintro e w' ⟨rfl, hc⟩)
    go_ret
    exact ⟨rfl, hc⟩
  | true =>
    rw [show hcpV zs = sumF pointF zs by simp [hcpV, hh]]
    have HZ := Lib.hid (hand_nums h.1 hh)
    have HL := Lib.hid h.1
    go_enter Try.func25, Try.ntmps25
    go_wp2_with (go_at_call 17; refine (spec_IsHand _ _ _ zs lo hi _ h hn).mono ?_; rintro e w1 ⟨rfl, hc⟩)
    have h1 := h.still hc
    clear h hh
    go_loop [3, 4] (fun s i => ∃ k : Nat, k ≤ n ∧ i = .int .i64 k ∧ s = .int .i64 (sumF pointF (zs.take k))) (fun _ i => n - (intOf i).toNat)
    case atStart => exact ⟨0, Nat.zero_le _, rfl, rfl⟩
    case round =>
      obtain ⟨k, hk, rfl, rfl⟩ := hrel
      by_cases hlt : k < n
      · have hkz : k < zs.length := by rw [HL.out]; exact hlt
        obtain ⟨b, off, rfl, _, _, hcl⟩ := h1.2 (by omega)
        have hck := hcl k hlt
        obtain ⟨z0, z1⟩ := HZ.out k hlt
        have hkl : (k : Int) < (n : Int) := by omega
        have hs := Lib.hid (sumF_take pointF hkz)
        have hbd := sumF_bound point_bound (zs.take k)
        have htl : (zs.take k).length ≤ 1048576 := by simp; omega
        have hb2 : sumF pointF (zs.take k) ≤ 12582912 := by omega
        have hb1 := hbd.1
        clear hcl hbd htl
        generalize sumF pointF (zs.take k) = S at hs hb1 hb2
        generalize zs.getD k 0 = z at hck z0 z1 hs
        go_wp2
        go_round
        case rel => exact ⟨k + 1, by omega, by go_num, by rw [hs.out, point_if]⟩
        case measure => simp [intOf]; omega
      · rw [show zs.take k = zs from List.take_of_length_le (by rw [HL.out]; omega)]
        go_wp2
        go_ret
        exact ⟨rfl, hc⟩

set_option maxHeartbeats 1000000 in
/-- spec.ControlsOf -/
theorem spec_ControlsOf (A : Option Addr) (n c : Nat) (zs : List Int) (lo hi : Nat) (w : World) (h : Rd w lo hi A n zs) (hn : n ≤ 1048576) :
    Calls Try.prog 32 #[.slice A n c] w (RetI w (ctrlV zs)) := by
  cases hh : handB zs with
  | false =>
    rw [show ctrlV zs = -1 by simp [ctrlV, hh]]
    go_enter Try.func32, Try.ntmps32
    go_wp2_with (go_at_call 17; refine (spec_IsHand _ _ _ zs lo hi _ h hn).mono ?_; rintro e w' ⟨rfl, hc⟩)
    go_ret
    exact ⟨rfl, hc⟩
  | true =>
    rw [show ctrlV zs = sumF contrF zs by simp [ctrlV, hh]]
    have HZ := Lib.hid (hand_nums h.1 hh)
    have HL := Lib.hid h.1
    go_enter Try.func32, Try.ntmps32
    go_wp2_with (go_at_call 17; refine (spec_IsHand _ _ _ zs lo hi _ h hn).mono ?_; rintro e w1 ⟨rfl, hc⟩)
    have h1 := h.still hc
    clear h hh
    go_loop [3, 4] (fun s i => ∃ k : Nat, k ≤ n ∧ i = .int .i64 k ∧ s = .int .i64 (sumF contrF (zs.take k))) (fun _ i => n - (intOf i).toNat)
    case atStart => exact ⟨0, Nat.zero_le _, rfl, rfl⟩
    case round =>
      obtain ⟨k, hk, rfl, rfl⟩ := hrel
      by_cases hlt : k < n
      · have hkz : k < zs.length := by rw [HL.out]; exact hlt
        obtain ⟨b, off, rfl, _, _, hcl⟩ := h1.2 (by omega)
        have hck := hcl k hlt
        obtain ⟨z0, z1⟩ := HZ.out k hlt
        have hkl : (k : Int) < (n : Int) := by omega
        have hs := Lib.hid (sumF_take contrF hkz)
        have hbd := sumF_bound contr_bound (zs.take k)
        have htl : (zs.take k).length ≤ 1048576 := by simp; omega
        have hb2 : sumF contrF (zs.take k) ≤ 12582912 := by omega
        have hb1 := hbd.1
        clear hcl hbd htl
        generalize sumF contrF (zs.take k) = S at hs hb1 hb2
        generalize zs.getD k 0 = z at hck z0 z1 hs
        go_wp2
        go_round
        case rel => exact ⟨k + 1, by omega, by go_num, by rw [hs.out, contr_if]⟩
        case measure => simp [intOf]; omega
      · rw [show zs.take k = zs from List.take_of_length_le (by rw [HL.out]; omega)]
        go_wp2
        go_ret
        exact ⟨rfl, hc⟩

/-- spec.l02Top -/
theorem l02Top (A : Option Addr) (n c : Nat) (s r : Int) (zs : List Int) (lo hi : Nat) (w : World) (h : Rd w lo hi A n zs) (hn : n ≤ 1048576) (s0 : 0 ≤ s) (s1 : s ≤ 3) (r0 : 0 ≤ r) (r1 : r ≤ 12) :
    Calls Try.prog 52 #[.slice A n c, .int .i64 s, .int .i64 r] w fun e w' => e = .returned (.bool (topB zs s r)) ∧ w = w' := by
  go_enter Try.func52, Try.ntmps52
  go_wp2_with (go_at_call 59; refine (l01Has _ _ _ _ zs lo hi _ h hn).mono ?_; rintro e w' ⟨rfl, rfl⟩)
  go_ret
  exact ⟨rfl, rfl⟩

/-- The losers of the first k suits. -/
def losesTo (zs : List Int) : Nat → Int
  | 0 => 0
  | k + 1 => losesTo zs k + loseS zs (k : Int)
theorem losesTo_range (zs : List Int) : ∀ k, 0 ≤ losesTo zs k ∧ losesTo zs k ≤ 3 * (k : Int)
  | 0 => by simp [losesTo]
  | k + 1 => by have := losesTo_range zs k; have := loseS_range zs (k : Int); simp only [losesTo]; omega

set_option maxHeartbeats 1600000 in
/-- spec.LosersOf -/
theorem spec_LosersOf (A : Option Addr) (n c : Nat) (zs : List Int) (lo hi : Nat) (w : World) (h : Rd w lo hi A n zs) (hn : n ≤ 1048576) :
    Calls Try.prog 33 #[.slice A n c] w (RetI w (losersV zs)) := by
  cases hh : handB zs with
  | false =>
    rw [show losersV zs = -1 by simp [losersV, hh]]
    go_enter Try.func33, Try.ntmps33
    go_wp2_with (go_at_call 17; refine (spec_IsHand _ _ _ zs lo hi _ h hn).mono ?_; rintro e w' ⟨rfl, hc⟩)
    go_ret
    exact ⟨rfl, hc⟩
  | true =>
    have HF : Hid (losersV zs = losesTo zs 4) := by simp [Hid, losersV, hh, losesTo]
    have HZ := Lib.hid (hand_nums h.1 hh)
    go_enter Try.func33, Try.ntmps33
    go_wp2_with (go_at_call 17; refine (spec_IsHand _ _ _ zs lo hi _ h hn).mono ?_; rintro e w1 ⟨rfl, hc⟩)
    have h1 := h.still hc
    clear h hh
    go_loopw [3, 4] (fun v i wr => ∃ k : Nat, k ≤ 4 ∧ i = .int .i64 k ∧ v = .int .i64 (losesTo zs k) ∧ Chg w1 wr 0 0) (fun _ i _ => 4 - (intOf i).toNat)
    case atStart => exact ⟨0, by omega, rfl, rfl, Chg.refl _ _ _⟩
    case round =>
      obtain ⟨k, hk, rfl, rfl, hcr⟩ := hrel
      have hrg := losesTo_range zs k
      have hr0 := hrg.1
      have hr1 : losesTo zs k ≤ 12 := by omega
      clear hrg
      by_cases hlt : k < 4
      · have hltI : (k : Int) < 4 := by omega
        have hk0 : (0 : Int) ≤ (k : Int) := by omega
        have hk3 : (k : Int) ≤ 3 := by omega
        have hr := h1.still hcr
        go_wp2_with fail
        refine (l01Suit A n c (k : Int) zs _ _ _ hr hn HZ.out).mono ?_
        rintro e w2 ⟨B, bc, rfl, _, _, _, c2⟩
        have hr2 := hr.still c2
        have hc2 := hcr.trans c2
        clear hr hcr c2
        by_cases hl3 : (suitF (k : Int) zs).length < 3
        · have HS : Hid (losesTo zs (k + 1) = losesTo zs k + loseTo zs (k : Int) (suitF (k : Int) zs).length) := by
            show losesTo zs k + loseS zs (k : Int) = _
            unfold loseS; rw [Nat.min_eq_right (by omega)]
          generalize (suitF (k : Int) zs).length = m at HS hl3
          go_wp2_with fail
          go_loop [3, 6] (fun v i => ∃ j : Nat, j ≤ m ∧ i = .int .i64 j ∧ v = .int .i64 (losesTo zs k + loseTo zs (k : Int) j)) (fun _ i => m - (intOf i).toNat)
          case atStart => exact ⟨0, Nat.zero_le _, rfl, by simp [loseTo]⟩
          case round =>
            obtain ⟨j, hj, rfl, rfl⟩ := hrel
            have hlr := loseTo_range zs (k : Int) j
            have hl0 := hlr.1
            have hl1 : loseTo zs (k : Int) j ≤ 3 := by omega
            have HT : Hid (loseTo zs (k : Int) (j + 1) = loseTo zs (k : Int) j + if topB zs (k : Int) (12 - (j : Int)) then 0 else 1) := rfl
            clear hlr
            by_cases hjm : j < m
            · have hjI : (j : Int) < (m : Int) := by omega
              have hj0 : (0 : Int) ≤ 12 - (j : Int) := by omega
              have hj1 : 12 - (j : Int) ≤ 12 := by omega
              generalize loseTo zs (k : Int) j = T at hl0 hl1 HT
              cases htop : topB zs (k : Int) (12 - (j : Int)) with
              | true =>
                rw [htop] at HT
                have HP := Lib.hid htop
                clear htop
                go_wp2_with fail
                refine (l02Top A n c (k : Int) (12 - (j : Int)) zs _ _ _ hr2 hn hk0 hk3 hj0 hj1).mono ?_
                rintro e w' ⟨rfl, rfl⟩
                rw [HP.out]
                go_wp2_with fail
                go_round
                case rel => exact ⟨j + 1, by omega, by go_num, by rw [HT.out]; simp⟩
                case measure => simp [intOf]; omega
              | false =>
                rw [htop] at HT
                have HP := Lib.hid htop
                clear htop
                go_wp2_with fail
                refine (l02Top A n c (k : Int) (12 - (j : Int)) zs _ _ _ hr2 hn hk0 hk3 hj0 hj1).mono ?_
                rintro e w' ⟨rfl, rfl⟩
                rw [HP.out]
                go_wp2_with fail
                go_round
                case rel => exact ⟨j + 1, by omega, by go_num, by rw [HT.out]; simp; omega⟩
                case measure => simp [intOf]; omega
            · have hjI : ¬ (j : Int) < (m : Int) := by omega
              have HE : Hid (losesTo zs (k + 1) = losesTo zs k + loseTo zs (k : Int) j) := by
                have e : j = m := by omega
                rw [e]; exact HS
              clear HT
              go_wp2
              go_roundw
              case rel => exact ⟨k + 1, by omega, by go_num, by rw [HE.out], hc2⟩
              case measure => simp [intOf]; omega
        · have HS : Hid (losesTo zs (k + 1) = losesTo zs k + loseTo zs (k : Int) 3) := by
            show losesTo zs k + loseS zs (k : Int) = _
            unfold loseS; rw [Nat.min_eq_left (by omega)]
          generalize (suitF (k : Int) zs).length = m at hl3
          go_wp2_with fail
          go_loop [3, 6] (fun v i => ∃ j : Nat, j ≤ 3 ∧ i = .int .i64 j ∧ v = .int .i64 (losesTo zs k + loseTo zs (k : Int) j)) (fun _ i => 3 - (intOf i).toNat)
          case atStart => exact ⟨0, Nat.zero_le _, rfl, by simp [loseTo]⟩
          case round =>
            obtain ⟨j, hj, rfl, rfl⟩ := hrel
            have hlr := loseTo_range zs (k : Int) j
            have hl0 := hlr.1
            have hl1 : loseTo zs (k : Int) j ≤ 3 := by omega
            have HT : Hid (loseTo zs (k : Int) (j + 1) = loseTo zs (k : Int) j + if topB zs (k : Int) (12 - (j : Int)) then 0 else 1) := rfl
            clear hlr
            by_cases hjm : j < 3
            · have hjI : (j : Int) < 3 := by omega
              have hj0 : (0 : Int) ≤ 12 - (j : Int) := by omega
              have hj1 : 12 - (j : Int) ≤ 12 := by omega
              generalize loseTo zs (k : Int) j = T at hl0 hl1 HT
              cases htop : topB zs (k : Int) (12 - (j : Int)) with
              | true =>
                rw [htop] at HT
                have HP := Lib.hid htop
                clear htop
                go_wp2_with fail
                refine (l02Top A n c (k : Int) (12 - (j : Int)) zs _ _ _ hr2 hn hk0 hk3 hj0 hj1).mono ?_
                rintro e w' ⟨rfl, rfl⟩
                rw [HP.out]
                go_wp2_with fail
                go_round
                case rel => exact ⟨j + 1, by omega, by go_num, by rw [HT.out]; simp⟩
                case measure => simp [intOf]; omega
              | false =>
                rw [htop] at HT
                have HP := Lib.hid htop
                clear htop
                go_wp2_with fail
                refine (l02Top A n c (k : Int) (12 - (j : Int)) zs _ _ _ hr2 hn hk0 hk3 hj0 hj1).mono ?_
                rintro e w' ⟨rfl, rfl⟩
                rw [HP.out]
                go_wp2_with fail
                go_round
                case rel => exact ⟨j + 1, by omega, by go_num, by rw [HT.out]; simp; omega⟩
                case measure => simp [intOf]; omega
            · have hjI : ¬ (j : Int) < 3 := by omega
              have HE : Hid (losesTo zs (k + 1) = losesTo zs k + loseTo zs (k : Int) j) := by
                have e : j = 3 := by omega
                rw [e]; exact HS
              clear HT
              go_wp2
              go_roundw
              case rel => exact ⟨k + 1, by omega, by go_num, by rw [HE.out], hc2⟩
              case measure => simp [intOf]; omega
      · obtain rfl : k = 4 := by omega
        rw [← HF.out]
        go_wp2
        go_ret
        exact ⟨rfl, hc.trans hcr⟩

set_option maxHeartbeats 1600000 in
/-- spec.l02Quick -/
theorem l02Quick (A : Option Addr) (n c : Nat) (s : Int) (zs : List Int) (lo hi : Nat) (w : World) (h : Rd w lo hi A n zs) (hn : n ≤ 1048576) (hz : ∀ j, j < n → 0 ≤ zs.getD j 0 ∧ zs.getD j 0 ≤ 51) (s0 : 0 ≤ s) (s1 : s ≤ 3) :
    Calls Try.prog 53 #[.slice A n c, .int .i64 s] w (RetI w (quickS zs s)) := by
  have HZ := Lib.hid hz
  clear hz
  cases ha : topB zs s 12 <;> cases hk : topB zs s 11 <;> cases hq : topB zs s 10
  all_goals
    have HA := Lib.hid ha
    have HK := Lib.hid hk
    have HQ := Lib.hid hq
    go_enter Try.func53, Try.ntmps53
    go_wp2_with fail
    refine (l02Top A n c s 12 zs lo hi _ h hn s0 s1 (by omega) (by omega)).mono ?_
    rintro e w' ⟨rfl, rfl⟩
    rw [HA.out]
    go_wp2_with fail
    refine (l02Top A n c s 11 zs lo hi _ h hn s0 s1 (by omega) (by omega)).mono ?_
    rintro e w' ⟨rfl, rfl⟩
    rw [HK.out]
    go_wp2_with fail
    refine (l02Top A n c s 10 zs lo hi _ h hn s0 s1 (by omega) (by omega)).mono ?_
    rintro e w' ⟨rfl, rfl⟩
    rw [HQ.out]
    clear ha hk hq
    go_wp2_with fail
    first
    | (go_ret; exact ⟨ret_int (by unfold quickS; rw [HA.out, HK.out, HQ.out]; rfl), Chg.refl _ _ _⟩)
    | (refine (l01Suit A n c s zs lo hi _ h hn HZ.out).mono ?_
       rintro e w1 ⟨B, bc, rfl, _, _, _, c1⟩
       by_cases hl : 1 < (suitF s zs).length
       · have hlI : (1 : Int) < ((suitF s zs).length : Int) := by omega
         go_wp2_with fail
         go_ret
         exact ⟨ret_int (by unfold quickS; rw [HA.out, HK.out, HQ.out, decide_eq_true hl]; rfl), c1⟩
       · have hlI : ¬ (1 : Int) < ((suitF s zs).length : Int) := by omega
         go_wp2_with fail
         go_ret
         exact ⟨ret_int (by unfold quickS; rw [HA.out, HK.out, HQ.out, decide_eq_false hl]; rfl), c1⟩)

theorem quickS_range (zs : List Int) (s : Int) : 0 ≤ quickS zs s ∧ quickS zs s ≤ 4 := by
  unfold quickS; repeat (split; · omega)
  omega

set_option maxHeartbeats 1600000 in
/-- spec.QuickTricks -/
theorem spec_QuickTricks (A : Option Addr) (n c : Nat) (zs : List Int) (lo hi : Nat) (w : World) (h : Rd w lo hi A n zs) (hn : n ≤ 1048576) :
    Calls Try.prog 34 #[.slice A n c] w (RetI w (quickV zs)) := by
  cases hh : handB zs with
  | false =>
    rw [show quickV zs = -1 by simp [quickV, hh]]
    go_enter Try.func34, Try.ntmps34
    go_wp2_with (go_at_call 17; refine (spec_IsHand _ _ _ zs lo hi _ h hn).mono ?_; rintro e w' ⟨rfl, hc⟩)
    go_ret
    exact ⟨rfl, hc⟩
  | true =>
    rw [show quickV zs = quickS zs 0 + quickS zs 1 + quickS zs 2 + quickS zs 3 by simp [quickV, hh]]
    have HZ := Lib.hid (hand_nums h.1 hh)
    have q0 := quickS_range zs 0
    have q1 := quickS_range zs 1
    have q2 := quickS_range zs 2
    have q3 := quickS_range zs 3
    obtain ⟨q00, q01⟩ := q0
    obtain ⟨q10, q11⟩ := q1
    obtain ⟨q20, q21⟩ := q2
    obtain ⟨q30, q31⟩ := q3
    go_enter Try.func34, Try.ntmps34
    go_wp2_with (go_at_call 17; refine (spec_IsHand _ _ _ zs lo hi _ h hn).mono ?_; rintro e w1 ⟨rfl, c1⟩)
    have h1 := h.still c1
    refine (l02Quick A n c 0 zs lo hi _ h1 hn HZ.out (by omega) (by omega)).mono ?_
    rintro e w2 ⟨rfl, c2⟩
    have h2 := h1.still c2
    go_wp2_with fail
    refine (l02Quick A n c 1 zs lo hi _ h2 hn HZ.out (by omega) (by omega)).mono ?_
    rintro e w3 ⟨rfl, c3⟩
    have h3 := h2.still c3
    go_wp2_with fail
    refine (l02Quick A n c 2 zs lo hi _ h3 hn HZ.out (by omega) (by omega)).mono ?_
    rintro e w4 ⟨rfl, c4⟩
    have h4 := h3.still c4
    go_wp2_with fail
    refine (l02Quick A n c 3 zs lo hi _ h4 hn HZ.out (by omega) (by omega)).mono ?_
    rintro e w5 ⟨rfl, c5⟩
    go_wp2_with fail
    go_ret
    exact ⟨rfl, (((c1.trans c2).trans c3).trans c4).trans c5⟩

set_option maxHeartbeats 1600000 in
/-- spec.HonorsOf -/
theorem spec_HonorsOf (A : Option Addr) (n c : Nat) (t : Int) (zs : List Int) (lo hi : Nat) (w : World) (h : Rd w lo hi A n zs) (hn : n ≤ 1048576) :
    Calls Try.prog 35 #[.slice A n c, .int .i64 t] w (RetI w (honV zs t)) := by
  cases hh : handB zs with
  | false =>
    rw [show honV zs t = -1 by simp [honV, hh]]
    go_enter Try.func35, Try.ntmps35
    go_wp2_with (go_at_call 17; refine (spec_IsHand _ _ _ zs lo hi _ h hn).mono ?_; rintro e w' ⟨rfl, hc⟩)
    go_ret
    exact ⟨rfl, hc⟩
  | true =>
    cases hi4 : inB t 0 4 with
    | false =>
      rw [show honV zs t = -1 by simp [honV, hi4]]
      go_enter Try.func35, Try.ntmps35
      go_wp2_with (first | (go_at_call 17; refine (spec_IsHand _ _ _ zs lo hi _ h hn).mono ?_; rintro e w' ⟨rfl, hc⟩) | (go_at_call 48; refine (l01In _ _ _ _).mono ?_; rintro e w' ⟨rfl, rfl⟩))
      go_ret
      exact ⟨rfl, hc⟩
    | true =>
      rw [show honV zs t = sumF (honF t) zs by simp [honV, hh, hi4]]
      have HZ := Lib.hid (hand_nums h.1 hh)
      have HL := Lib.hid h.1
      go_enter Try.func35, Try.ntmps35
      go_wp2_with (first | (go_at_call 17; refine (spec_IsHand _ _ _ zs lo hi _ h hn).mono ?_; rintro e w1 ⟨rfl, hc⟩) | (go_at_call 48; refine (l01In _ _ _ _).mono ?_; rintro e w' ⟨rfl, rfl⟩))
      have h1 := h.still hc
      clear h hh hi4
      go_loop [5, 6] (fun s i => ∃ k : Nat, k ≤ n ∧ i = .int .i64 k ∧ s = .int .i64 (sumF (honF t) (zs.take k))) (fun _ i => n - (intOf i).toNat)
      case atStart => exact ⟨0, Nat.zero_le _, rfl, rfl⟩
      case round =>
        obtain ⟨k, hk, rfl, rfl⟩ := hrel
        by_cases hlt : k < n
        · have hkz : k < zs.length := by rw [HL.out]; exact hlt
          obtain ⟨b, off, rfl, _, _, hcl⟩ := h1.2 (by omega)
          have hck := hcl k hlt
          obtain ⟨z0, z1⟩ := HZ.out k hlt
          have hkl : (k : Int) < (n : Int) := by omega
          have hs := Lib.hid (sumF_take (honF t) hkz)
          have hbd := sumF_bound (hon_bound t) (zs.take k)
          have htl : (zs.take k).length ≤ 1048576 := by simp; omega
          have hb2 : sumF (honF t) (zs.take k) ≤ 12582912 := by omega
          have hb1 := hbd.1
          clear hcl hbd htl
          generalize sumF (honF t) (zs.take k) = S at hs hb1 hb2
          generalize zs.getD k 0 = z at hck z0 z1 hs
          by_cases hA : (t = 4 ∧ z % 13 = 12) ∨ (z / 13 = t ∧ 8 ≤ z % 13)
          · have HH : Hid (honF t z = 1) := by show _ = _; unfold honF; rw [if_pos hA]
            by_cases ht4 : t = 4 ∧ z % 13 = 12
            · obtain ⟨q1, q2⟩ := ht4
              have b1 : (t == 4) = true := by simpa using q1
              have b2 : (z % 13 == 12) = true := by simpa using q2
              clear hA q1 q2
              go_wp2
              go_round
              case rel => exact ⟨k + 1, by omega, by go_num, by rw [hs.out, HH.out]⟩
              case measure => simp [intOf]; omega
            · have hB : z / 13 = t ∧ 8 ≤ z % 13 := by omega
              have b3 : (z / 13 == t) = true := by simpa using hB.1
              have b4 : 8 ≤ z % 13 := hB.2
              by_cases hte : t = 4
              · omega
              · have b1 : (t == 4) = false := by simpa using hte
                clear hA hB ht4 hte
                go_wp2
                go_round
                case rel => exact ⟨k + 1, by omega, by go_num, by rw [hs.out, HH.out]⟩
                case measure => simp [intOf]; omega
          · have HH : Hid (honF t z = 0) := by show _ = _; unfold honF; rw [if_neg hA]
            by_cases hte : t = 4
            · have b1 : (t == 4) = true := by simpa using hte
              have b2 : (z % 13 == 12) = false := by rw [beq_eq_false_iff_ne]; omega
              have b3 : (z / 13 == t) = false := by rw [beq_eq_false_iff_ne]; omega
              clear hA hte
              go_wp2
              go_round
              case rel => exact ⟨k + 1, by omega, by go_num, by rw [hs.out, HH.out, Int.add_zero]⟩
              case measure => simp [intOf]; omega
            · have b1 : (t == 4) = false := by simpa using hte
              by_cases hst : z / 13 = t
              · have b3 : (z / 13 == t) = true := by simpa using hst
                have b4 : ¬ 8 ≤ z % 13 := by omega
                clear hA hte hst
                go_wp2
                go_round
                case rel => exact ⟨k + 1, by omega, by go_num, by rw [hs.out, HH.out, Int.add_zero]⟩
                case measure => simp [intOf]; omega
              · have b3 : (z / 13 == t) = false := by simpa using hst
                clear hA hte hst
                go_wp2
                go_round
                case rel => exact ⟨k + 1, by omega, by go_num, by rw [hs.out, HH.out, Int.add_zero]⟩
                case measure => simp [intOf]; omega
        · rw [show zs.take k = zs from List.take_of_length_le (by rw [HL.out]; omega)]
          go_wp2
          go_ret
          exact ⟨rfl, hc⟩

end Go.Proofs.Ytgoaikamolcffaa.Lib1
