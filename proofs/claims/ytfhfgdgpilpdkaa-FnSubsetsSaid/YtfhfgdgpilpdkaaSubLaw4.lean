/- The law of subsets: a subset is recovered from its number, and the next subset has the next number. -/
import Derived.Test.YtfhfgdgpilpdkaaSubI4
import Derived.Test.YtfhfgdgpilpdkaaDraw4
namespace Go.Proofs.Ytfhfgdgpilpdkaa.Lib1
open Go.RowKit
set_option maxRecDepth 100000

/-! ### Lists -/
theorem back_ok {L S : List Int} (h : rnkC L S = 0) : unrC L S.length (rnkV L S) = 0 ∧ unrV L S.length (rnkV L S) = S := by
  have hs := rank_sub h
  obtain ⟨h1, h2, h3⟩ := rnkC_zero h
  have hlt := rankN_lt L S hs
  have hc : unrC L S.length (rnkV L S) = 0 := by
    rw [rnkV_yes h]
    exact unrC_yes h1 ⟨by omega, by have := hs.length_le; omega⟩ ⟨by omega, by rw [show ((S.length : Nat) : Int).toNat = S.length by omega]; omega⟩
  refine ⟨hc, ?_⟩
  rw [unrV_yes hc, rnkV_yes h, show ((S.length : Nat) : Int).toNat = S.length by omega, show ((rankN L S : Nat) : Int).toNat = rankN L S by omega]
  exact unrank_rank L S hs
theorem rank_lt_bin {L S : List Int} (h : rnkC L S = 0) : ∃ C : Nat, binV (L.length : Int) (S.length : Int) = (C : Int) ∧ 0 ≤ rnkV L S ∧ rnkV L S < (C : Int) ∧ C ≤ 4503599627370496 ∧ ch L.length S.length = C := by
  have hs := rank_sub h
  obtain ⟨h1, h2, h3⟩ := rnkC_zero h
  have hlt := rankN_lt L S hs
  refine ⟨ch L.length S.length, binV_yes (rising_len h1) hs.length_le, by rw [rnkV_yes h]; omega, by rw [rnkV_yes h]; omega, ch_le _ (rising_len h1), rfl⟩
theorem next_last {L S : List Int} {C : Nat} (h : rnkC L S = 0) (hC : ch L.length S.length = C) (hl : ¬ rnkV L S + 1 < (C : Int)) : nextC L S = 4 := by
  rw [nextC_yes h]
  have hs := rank_sub h
  obtain ⟨h1, h2, h3⟩ := rnkC_zero h
  exact unrC_no3 h1 ⟨by omega, by have := hs.length_le; omega⟩ (by rw [show ((S.length : Nat) : Int).toNat = S.length by omega, hC]; omega)
theorem next_ok {L S : List Int} {C : Nat} (h : rnkC L S = 0) (hC : ch L.length S.length = C) (hl : rnkV L S + 1 < (C : Int)) : nextC L S = 0 ∧ rnkC L (nextV L S) = 0 ∧ rnkV L (nextV L S) = rnkV L S + 1 := by
  have hs := rank_sub h
  obtain ⟨h1, h2, h3⟩ := rnkC_zero h
  have h0 := (rnkV_small h).1
  have hc : unrC L S.length (rnkV L S + 1) = 0 :=
    unrC_yes h1 ⟨by omega, by have := hs.length_le; omega⟩ (by rw [show ((S.length : Nat) : Int).toNat = S.length by omega, hC]; omega)
  have hv : nextV L S = unrankN L S.length (rnkV L S + 1).toNat := by
    rw [nextV_yes h, unrV_yes hc, show ((S.length : Nat) : Int).toNat = S.length by omega]
  have hsub := unrank_sub L S.length (rnkV L S + 1).toNat
  have hrk := rank_unrank L S.length (rnkV L S + 1).toNat (pair_nodup (rising_pair h1)) (by rw [hC]; omega)
  rw [← hv] at hsub hrk
  have hr2 : rnkC L (nextV L S) = 0 := by
    refine rnkC_yes h1 (rising_of ((rising_pair h1).sublist hsub) (fun z hz => rising_mem h1 z (hsub.subset hz))) ?_
    rw [List.all_eq_true]
    intro z hz
    simpa [hasB] using hsub.subset hz
  refine ⟨by rw [nextC_yes h]; exact hc, hr2, ?_⟩
  rw [rnkV_yes hr2, hrk]
  omega
theorem nextV_len (L S : List Int) : (nextV L S).length ≤ L.length := by
  unfold nextV
  split
  · exact unrV_len _ _ _
  · simp

set_option maxHeartbeats 4000000 in
theorem law_Subsets (A : Option Addr) (n c : Nat) (w : World) (h : Bytes w A n) :
    Calls Try.prog 6 #[.slice A n c] w fun e w' => e = .returned (.bool true) ∧ Below w.heap.size w w' := by
  by_cases hn : 4096 < n
  · have hb := Lib.hid (decide_eq_true hn)
    go_enter Try.func6, Try.ntmps6
    go_wp2_with fail
    refine (big _ _ _ _).mono ?_
    rintro e w' ⟨rfl, rfl⟩
    rw [hb.out]
    go_wp2_with fail
    go_ret
    exact ⟨rfl, Below.refl _ _⟩
  · have hb := Lib.hid (decide_eq_false hn)
    go_enter Try.func6, Try.ntmps6
    go_wp2_with fail
    refine (big _ _ _ _).mono ?_
    rintro e w' ⟨rfl, rfl⟩
    rw [hb.out]
    go_wp2_with fail
    refine (DrawRankSubset A n c _ h (by omega)).mono ?_
    rintro e w1 ⟨X, cx, L, Y, cy, S, rfl, hL, hS, px, py, ly, rx, ry, b1⟩
    clear h hn hb
    go_wp2_with fail
    refine (impl_RankSubset X Y L.length cx S.length cy L S _ _ _ _ _ rx ry (by omega) (by omega) px.nil ly py.nil).mono ?_
    rintro e w2 ⟨rfl, c2⟩
    have rx2 := rx.still c2
    have ry2 := ry.still c2
    have b2 := Chg.above b1 c2 b1.size (.inr rfl)
    clear rx ry b1 c2
    by_cases h0 : rnkC L S = 0
    · have H0 := Lib.hid h0
      obtain ⟨e1, e2⟩ := back_ok h0
      have E1 := Lib.hid e1
      have E2 := Lib.hid e2
      obtain ⟨C, hC, v0, v1, hCs, hCc⟩ := rank_lt_bin h0
      have HC := Lib.hid hC
      rw [H0.out]
      have hlast := fun q => Lib.hid (next_last h0 hCc q)
      have hok := fun q => Lib.hid (next_ok h0 hCc q)
      clear e1 e2 h0 hC hCc
      have hv0 : ¬ rnkV L S < 0 := by omega
      have hv1 : ¬ (C : Int) ≤ rnkV L S := by omega
      go_wp2_with fail
      refine (impl_UnrankSubset X L.length cx (S.length : Int) (rnkV L S) L _ _ _ rx2 (by omega)).mono ?_
      rw [E1.out, E2.out]
      rintro e w3 ⟨G, cg, rfl, _, _, og, c3⟩
      have rx3 := rx2.still c3
      have ry3 := ry2.still c3
      have b3 := Chg.above b2 c3 b2.size (.inr rfl)
      clear rx2 ry2 b2 c3
      go_wp2_with fail
      refine (likeIntsQ G Y S.length S.length cg cy S _ _ _ _ _ og.rd ry3 (by omega)).mono ?_
      rintro e w4 ⟨rfl, hq⟩
      have c4 := Chg.of_drew hq 0 0
      have rx4 := rx3.still c4
      have ry4 := ry3.still c4
      have b4 := Chg.above b3 c4 b3.size (.inr rfl)
      clear rx3 ry3 b3 c4 hq og
      go_wp2_with fail
      refine (spec_Binomial (L.length : Int) (S.length : Int) _).mono ?_
      rw [HC.out]
      rintro e w' ⟨rfl, rfl⟩
      go_wp2_with fail
      refine (impl_NextSubset X Y L.length cx S.length cy L S _ _ _ _ _ rx4 ry4 (by omega) (by omega) px.nil ly py.nil).mono ?_
      by_cases hl : rnkV L S + 1 < (C : Int)
      · obtain ⟨n1, n2, n3⟩ := (hok hl).out
        have N2 := Lib.hid n2
        have N3 := Lib.hid n3
        rw [n1]
        clear n1 n2 n3 hok hlast
        have hnl := nextV_len L S
        rintro e w5 ⟨T, ct, rfl, lt, pt, ot, c5⟩
        have rx5 := rx4.still c5
        have b5 := Chg.above b4 c5 b4.size (.inr rfl)
        clear rx4 ry4 b4 c5
        go_wp2_with fail
        refine (impl_RankSubset X T L.length cx (nextV L S).length ct L (nextV L S) _ _ _ _ _ rx5 ot.rd (by omega) (by omega) px.nil lt pt.nil).mono ?_
        rw [N2.out, N3.out]
        rintro e w6 ⟨rfl, c6⟩
        have b6 := Chg.above b5 c6 b5.size (.inr rfl)
        generalize rnkV L S = v at v0 v1 hv0 hv1 hl
        go_wp2_with fail
        go_ret
        exact ⟨rfl, b6⟩
      · have n1 := (hlast (by omega)).out
        rw [n1]
        clear n1 hok hlast
        rintro e w5 ⟨T, ct, rfl, lt, pt, ot, c5⟩
        have b5 := Chg.above b4 c5 b4.size (.inr rfl)
        clear rx4 ry4 b4 c5
        have heq : rnkV L S + 1 = (C : Int) := by omega
        go_wp2_with fail
        refine (spec_Binomial (L.length : Int) (S.length : Int) _).mono ?_
        rw [HC.out]
        rintro e w' ⟨rfl, rfl⟩
        go_wp2_with fail
        go_ret
        exact ⟨rfl, b5⟩
    · have hk : rnkC L S = 1 ∨ rnkC L S = 4 := by rcases rnkC_cases L S with q | q | q <;> simp_all
      have hv := Lib.hid (rnkV_no rfl h0)
      rw [hv.out]
      clear h0
      rcases hk with hk | hk
      · rw [hk]
        go_wp2_with fail
        go_ret
        exact ⟨rfl, b2⟩
      · rw [hk]
        go_wp2_with fail
        go_ret
        exact ⟨rfl, b2⟩
end Go.Proofs.Ytfhfgdgpilpdkaa.Lib1
