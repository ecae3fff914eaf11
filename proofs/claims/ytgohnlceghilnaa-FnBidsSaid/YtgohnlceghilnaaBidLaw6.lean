/- The law FnBids. -/
import Derived.Test.YtgohnlceghilnaaDraw6
import Derived.Test.YtgohnlceghilnaaCall6
namespace Go.Proofs.Ytgohnlceghilnaa.Lib1
open Go.RowKit
set_option maxRecDepth 100000

/-- The lowest bid of the strain from b on that is above c (b counts down from 38). -/
def LowFrom (c s b v : Int) : Prop := (v = -1 ∧ ∀ j, b ≤ j → j ≤ 37 → c < j → strV j ≠ s) ∨ (b ≤ v ∧ v ≤ 37 ∧ c < v ∧ strV v = s ∧ ∀ j, b ≤ j → j < v → c < j → strV j ≠ s)
theorem LowFrom.zero (c s : Int) : LowFrom c s 38 (-1) := .inl ⟨rfl, fun j h1 h2 => by omega⟩
theorem LowFrom.hit {c s b : Int} (h1 : b ≤ 37) (hc : c < b) (hs : strV b = s) : LowFrom c s b b := .inr ⟨by omega, h1, hc, hs, fun j h1 h2 => by omega⟩
theorem LowFrom.miss {c s b v : Int} (h : LowFrom c s (b + 1) v) (hm : ¬ (c < b ∧ strV b = s)) : LowFrom c s b v := by
  rcases h with ⟨rfl, h⟩ | ⟨h1, h2, h3, h4, h5⟩
  · refine .inl ⟨rfl, fun j j1 j2 j3 hj => ?_⟩
    by_cases hb : j = b
    · subst hb; exact hm ⟨j3, hj⟩
    · exact h j (by omega) j2 j3 hj
  · refine .inr ⟨by omega, h2, h3, h4, fun j j1 j2 j3 hj => ?_⟩
    by_cases hb : j = b
    · subst hb; exact hm ⟨j3, hj⟩
    · exact h5 j (by omega) j2 j3 hj
theorem low_is {c s v : Int} (hc : 0 ≤ c ∧ c ≤ 37) (h : LowFrom c s 3 v) : lowV c s = v := by
  by_cases hs : 0 ≤ s ∧ s ≤ 4
  · rcases h with ⟨rfl, h⟩ | ⟨h1, h2, h3, h4, h5⟩
    · refine lowV_end ?_
      have := lowB_gt (c := c) (s := s) (b := 37) hs (fun j j1 j2 j3 hj => h j j2 j3 j1 (by rw [strV_yes ⟨j2, j3⟩]; exact hj))
      omega
    · have hb := lowB_is (c := c) (s := s) (b := v) hs h3 h1 (by rw [← strV_yes ⟨h1, h2⟩]; exact h4) (fun j j1 j2 j3 hj => h5 j j2 j3 j1 (by rw [strV_yes ⟨j2, by omega⟩]; exact hj))
      rw [lowV_yes ⟨hc, hs⟩ (by omega), hb]
  · rw [lowV_no (fun hq => hs hq.2)]
    rcases h with ⟨rfl, _⟩ | ⟨h1, h2, h3, h4, h5⟩
    · rfl
    · rw [strV_yes ⟨h1, h2⟩] at h4; omega
/-- What the law asks of a bid's level and strain. -/
theorem bid_again {c : Int} (h : 3 ≤ c ∧ c ≤ 37) : bidV (levV c) (strV c) = c := by
  rw [levV_yes h, strV_yes h, bidV_yes (by omega)]; omega

set_option maxHeartbeats 4000000 in
theorem law_FnBids (A : Option Addr) (n c : Nat) (w : World) (h : Bytes w A n) :
    Calls Try.prog 3 #[.slice A n c] w fun e w' => e = .returned (.bool true) ∧ Below w.heap.size w w' := by
  by_cases hn : 4096 < n
  · have hb := Lib.hid (decide_eq_true hn)
    go_enter Try.func3, Try.ntmps3
    go_wp2_with fail
    refine (big _ _ _ _).mono ?_
    rintro e w' ⟨rfl, rfl⟩
    rw [hb.out]
    go_wp2_with fail
    go_ret
    exact ⟨rfl, Below.refl _ _⟩
  · have hb := Lib.hid (decide_eq_false hn)
    go_enter Try.func3, Try.ntmps3
    go_wp2_with fail
    refine (big _ _ _ _).mono ?_
    rintro e w' ⟨rfl, rfl⟩
    rw [hb.out]
    go_wp2_with fail
    refine (DrawLowestBid A n c _ h (by omega)).mono ?_
    rintro e w1 ⟨x, s, rfl, hx, hs, b1⟩
    clear h hn hb
    have B1 := Lib.hid b1
    clear b1
    go_wp2_with fail
    refine (impl_LowestBid x s _).mono ?_
    rintro e w2 ⟨rfl, c2⟩
    have B2 := Lib.hid (Chg.above B1.out c2 B1.out.size (.inr rfl))
    clear c2
    obtain ⟨low, hlow⟩ : ∃ v, v = lowV x s := ⟨_, rfl⟩
    rw [← hlow]
    have HL := Lib.hid hlow
    clear hlow
    go_wp2_with fail
    go_loop [6, 7] (fun u i => ∃ b v : Int, 2 ≤ b ∧ b ≤ 37 ∧ i = .int .i64 b ∧ u = .int .i64 v ∧ Hid ((0 ≤ x ∧ x ≤ 37 → LowFrom x s (b + 1) v) ∧ (¬ (0 ≤ x ∧ x ≤ 37) → v = -1))) (fun _ i => (intOf i).toNat)
    case atStart => exact ⟨37, -1, by omega, by omega, rfl, rfl, fun _ => LowFrom.zero x s, fun _ => rfl⟩
    case round =>
      obtain ⟨b, v, hb0, hb1, rfl, rfl, hv⟩ := hrel
      have eb : b - 1 + 1 = b := by omega
      by_cases hge : 3 ≤ b
      · by_cases hxb : x < b
        · by_cases hin : 0 ≤ x ∧ x ≤ 37
          · have bz := inB_true hin
            by_cases he : strV b = s
            · have hbe : (strV b == s) = true := by simpa using he
              have hv' : Hid ((0 ≤ x ∧ x ≤ 37 → LowFrom x s (b - 1 + 1) b) ∧ (¬ (0 ≤ x ∧ x ≤ 37) → b = -1)) := ⟨fun _ => by rw [eb]; exact LowFrom.hit hb1 hxb he, fun h => absurd hin h⟩
              clear he hv eb
              go_wp2_with (first | (go_at_call 13; refine (spec_IsCall _ _).mono ?_; rintro e w' ⟨rfl, rfl⟩) | (go_at_call 14; refine (spec_StrainOf _ _).mono ?_; rintro e w' ⟨rfl, rfl⟩))
              go_round
              case rel => exact ⟨b - 1, b, by omega, by omega, by go_num, rfl, hv'⟩
              case measure => simp [intOf]; omega
            · have hbe : (strV b == s) = false := by simpa using he
              have hv' : Hid ((0 ≤ x ∧ x ≤ 37 → LowFrom x s (b - 1 + 1) v) ∧ (¬ (0 ≤ x ∧ x ≤ 37) → v = -1)) := ⟨fun h => by rw [eb]; exact (hv.out.1 h).miss (fun h => he h.2), hv.out.2⟩
              clear he hv eb
              go_wp2_with (first | (go_at_call 13; refine (spec_IsCall _ _).mono ?_; rintro e w' ⟨rfl, rfl⟩) | (go_at_call 14; refine (spec_StrainOf _ _).mono ?_; rintro e w' ⟨rfl, rfl⟩))
              go_round
              case rel => exact ⟨b - 1, v, by omega, by omega, by go_num, rfl, hv'⟩
              case measure => simp [intOf]; omega
          · have bz := inB_false hin
            have hv' : Hid ((0 ≤ x ∧ x ≤ 37 → LowFrom x s (b - 1 + 1) v) ∧ (¬ (0 ≤ x ∧ x ≤ 37) → v = -1)) := ⟨fun h => absurd h hin, hv.out.2⟩
            clear hv hin eb
            go_wp2_with (first | (go_at_call 13; refine (spec_IsCall _ _).mono ?_; rintro e w' ⟨rfl, rfl⟩) | (go_at_call 14; refine (spec_StrainOf _ _).mono ?_; rintro e w' ⟨rfl, rfl⟩))
            go_round
            case rel => exact ⟨b - 1, v, by omega, by omega, by go_num, rfl, hv'⟩
            case measure => simp [intOf]; omega
        · have hv' : Hid ((0 ≤ x ∧ x ≤ 37 → LowFrom x s (b - 1 + 1) v) ∧ (¬ (0 ≤ x ∧ x ≤ 37) → v = -1)) := ⟨fun h => by rw [eb]; exact (hv.out.1 h).miss (fun h => hxb h.1), hv.out.2⟩
          clear hv eb
          go_wp2
          go_round
          case rel => exact ⟨b - 1, v, by omega, by omega, by go_num, rfl, hv'⟩
          case measure => simp [intOf]; omega
      · obtain rfl : b = 2 := by omega
        have hlv : low = v := by
          rw [HL.out]
          by_cases hin : 0 ≤ x ∧ x ≤ 37
          · exact low_is hin (hv.out.1 hin)
          · rw [hv.out.2 hin, lowV_no (fun h => hin h.1)]
        clear hv eb HL
        subst hlv
        by_cases hbid : 3 ≤ x ∧ x ≤ 37
        · have bz := inB_true (n := x) (low := 0) (high := 37) (by omega)
          have hl := levV_yes hbid
          have l0 : (levV x == 0) = false := by simp; omega
          have hag := Lib.hid (bid_again hbid)
          obtain ⟨x0, x1⟩ := hbid
          have x2 : 0 ≤ x := by omega
          clear hl
          obtain ⟨L, hL⟩ : ∃ L, L = levV x := ⟨_, rfl⟩
          obtain ⟨S, hS⟩ : ∃ S, S = strV x := ⟨_, rfl⟩
          have FL := Lib.hid hL
          have FS := Lib.hid hS
          rw [← hL] at l0 hag
          rw [← hS] at hag
          clear hL hS
          have hbe : (bidV L S == x) = true := by simpa using hag.out
          clear hag
          go_wp2_with (go_at_call 15; refine (impl_IsCall _ _).mono ?_; rintro e w' ⟨rfl, rfl⟩)
          go_wp2_with fail
          refine (impl_LevelOf x _).mono ?_
          rintro e w3 ⟨rfl, c3⟩
          rw [← FL.out]
          have B3 := Lib.hid (Chg.above B2.out c3 B2.out.size (.inr rfl))
          clear c3
          go_wp2_with fail
          refine (impl_LevelOf x _).mono ?_
          rintro e w4 ⟨rfl, c4⟩
          rw [← FL.out]
          have B4 := Lib.hid (Chg.above B3.out c4 B3.out.size (.inr rfl))
          clear c4
          go_wp2_with fail
          refine (impl_StrainOf x _).mono ?_
          rintro e w5 ⟨rfl, c5⟩
          rw [← FS.out]
          have B5 := Lib.hid (Chg.above B4.out c5 B4.out.size (.inr rfl))
          clear c5
          go_wp2_with fail
          refine (impl_BidOf L S _).mono ?_
          rintro e w6 ⟨rfl, c6⟩
          have B6 := Lib.hid (Chg.above B5.out c6 B5.out.size (.inr rfl))
          clear c6
          go_wp2_with fail
          go_ret
          exact ⟨rfl, B6.out⟩
        · have hl := Lib.hid (levV_no hbid)
          have hs' := Lib.hid (strV_no hbid)
          have hcs : x < 0 ∨ (0 ≤ x ∧ x < 3) ∨ 37 < x := by omega
          have hend : ∀ z : Bool, inB x 0 37 = z → (x < 0 → z = false) ∧ (0 ≤ x → x < 3 → z = true) ∧ (37 < x → z = false) := fun z hz => ⟨fun h => by rw [← hz]; exact inB_false (by omega), fun h1 h2 => by rw [← hz]; exact inB_true (by omega), fun h => by rw [← hz]; exact inB_false (by omega)⟩
          clear hbid
          rcases hcs with q | ⟨q, q'⟩ | q
          · have bz : inB x 0 37 = false := (hend _ rfl).1 q
            have q1 : x < 3 := by omega
            have q2 : ¬ 0 ≤ x := by omega
            clear hend
            go_wp2_with (go_at_call 15; refine (impl_IsCall _ _).mono ?_; rintro e w' ⟨rfl, rfl⟩)
            go_wp2_with fail
            refine (impl_LevelOf x _).mono ?_
            rintro e w3 ⟨rfl, c3⟩
            rw [hl.out]
            have B3 := Lib.hid (Chg.above B2.out c3 B2.out.size (.inr rfl))
            clear c3
            go_wp2_with fail
            refine (impl_StrainOf x _).mono ?_
            rintro e w5 ⟨rfl, c5⟩
            rw [hs'.out]
            have B5 := Lib.hid (Chg.above B3.out c5 B3.out.size (.inr rfl))
            clear c5
            go_wp2_with fail
            go_ret
            exact ⟨rfl, B5.out⟩
          · have bz : inB x 0 37 = true := (hend _ rfl).2.1 q q'
            have q2 : x ≤ 37 := by omega
            clear hend
            go_wp2_with (go_at_call 15; refine (impl_IsCall _ _).mono ?_; rintro e w' ⟨rfl, rfl⟩)
            go_wp2_with fail
            refine (impl_LevelOf x _).mono ?_
            rintro e w3 ⟨rfl, c3⟩
            rw [hl.out]
            have B3 := Lib.hid (Chg.above B2.out c3 B2.out.size (.inr rfl))
            clear c3
            go_wp2_with fail
            refine (impl_StrainOf x _).mono ?_
            rintro e w5 ⟨rfl, c5⟩
            rw [hs'.out]
            have B5 := Lib.hid (Chg.above B3.out c5 B3.out.size (.inr rfl))
            clear c5
            go_wp2_with fail
            go_ret
            exact ⟨rfl, B5.out⟩
          · have bz : inB x 0 37 = false := (hend _ rfl).2.2 q
            have q1 : ¬ x < 3 := by omega
            have q2 : 0 ≤ x := by omega
            have q3 : ¬ x ≤ 37 := by omega
            clear hend
            go_wp2_with (go_at_call 15; refine (impl_IsCall _ _).mono ?_; rintro e w' ⟨rfl, rfl⟩)
            go_wp2_with fail
            refine (impl_LevelOf x _).mono ?_
            rintro e w3 ⟨rfl, c3⟩
            rw [hl.out]
            have B3 := Lib.hid (Chg.above B2.out c3 B2.out.size (.inr rfl))
            clear c3
            go_wp2_with fail
            refine (impl_StrainOf x _).mono ?_
            rintro e w5 ⟨rfl, c5⟩
            rw [hs'.out]
            have B5 := Lib.hid (Chg.above B3.out c5 B3.out.size (.inr rfl))
            clear c5
            go_wp2_with fail
            go_ret
            exact ⟨rfl, B5.out⟩
end Go.Proofs.Ytgohnlceghilnaa.Lib1
