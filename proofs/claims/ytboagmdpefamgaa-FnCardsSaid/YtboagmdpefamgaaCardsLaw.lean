/- The law FnCards: a card is recovered from its suit and rank and from its text, and an accepted text is the text of its card. -/
import Derived.Test.YtboagmdpefamgaaDrawT
namespace Go.Proofs.Ytboagmdpefamgaa.Lib1
open Go.RowKit

/-! ### Texts and cards -/
theorem rd_text_fin : ∀ k : Fin 52, rdC (textV ((k.val : Nat) : Int)) = ((k.val : Nat) : Int) := by decide +kernel
theorem rd_text {c : Int} (h0 : 0 ≤ c) (h1 : c ≤ 51) : rdC (textV c) = c := by
  have h := rd_text_fin ⟨c.toNat, by omega⟩
  have e : ((c.toNat : Nat) : Int) = c := by omega
  simp only [e] at h
  exact h
theorem card_of_parts {c : Int} (h0 : 0 ≤ c) (h1 : c ≤ 51) : cardV (suitV c) (rankV c) = c := by
  rw [suitV_yes ⟨h0, h1⟩, rankV_yes ⟨h0, h1⟩, cardV_yes (by omega)]; omega
theorem idx_get : ∀ (l : List UInt8) (c : UInt8), 0 ≤ Lib.indexByte l c → (Lib.indexByte l c).toNat < l.length ∧ l.getD (Lib.indexByte l c).toNat 0 = c
  | [], c, h => by simp [Lib.indexByte] at h
  | b :: l, c, h => by
    by_cases e : b = c
    · subst e; simp [Lib.indexByte]
    · have e1 : (b == c) = false := by simpa using e
      by_cases e2 : Lib.indexByte l c = -1
      · simp [Lib.indexByte, e1, e2] at h
      · have e3 : (Lib.indexByte l c == -1) = false := by simpa using e2
        have e4 : Lib.indexByte (b :: l) c = Lib.indexByte l c + 1 := by simp [Lib.indexByte, e1, e3]
        rw [e4] at h ⊢
        by_cases e5 : 0 ≤ Lib.indexByte l c
        · have ih := idx_get l c e5
          have e6 : (Lib.indexByte l c + 1).toNat = (Lib.indexByte l c).toNat + 1 := by omega
          rw [e6]
          exact ⟨by simpa using ih.1, by simpa using ih.2⟩
        · omega
theorem text_of_rd {t : ByteArray} (h : 0 ≤ rdC t) : textV (rdC t) = t := by
  by_cases h2 : t.size = 2
  · have e : rdC t = cardV (Lib.indexByte suitL (t.data.toList.getD 0 0)) (Lib.indexByte rankL (t.data.toList.getD 1 0)) := by simp [rdC, h2]
    generalize ha : Lib.indexByte suitL (t.data.toList.getD 0 0) = a at e
    generalize hb : Lib.indexByte rankL (t.data.toList.getD 1 0) = b at e
    by_cases hc : (0 ≤ a ∧ a ≤ 3) ∧ 0 ≤ b ∧ b ≤ 12
    · rw [cardV_yes hc] at e
      have g1 := idx_get suitL (t.data.toList.getD 0 0) (by rw [ha]; omega)
      have g2 := idx_get rankL (t.data.toList.getD 1 0) (by rw [hb]; omega)
      rw [ha] at g1
      rw [hb] at g2
      have q1 : rdC t / 13 = a := by omega
      have q2 : rdC t % 13 = b := by omega
      have hl : t.data.toList.length = 2 := by simpa using h2
      unfold textV strOfNums
      rw [q1, q2]
      have d : t.data.toList = [suitL.getD a.toNat 0, rankL.getD b.toNat 0] := by
        rw [g1.2, g2.2]
        match hm : t.data.toList, hl with
        | [u, v], _ => rfl
      have d2 : t.data = [suitL.getD a.toNat 0, rankL.getD b.toNat 0].toArray := by rw [← d]
      obtain ⟨td⟩ := t
      simp only at d2
      rw [d2]
      congr 1
      simp [sufV, rafV]
    · rw [cardV_no hc] at e; omega
  · rw [rdC_not t h2] at h; omega

set_option maxHeartbeats 1600000 in
theorem law_Cards (A : Option Addr) (n c : Nat) (w : World) (h : Bytes w A n) (hA : A = none → c = 0) :
    Calls Try.prog 3 #[.slice A n c] w fun e w' => e = .returned (.bool true) ∧ Below w.heap.size w w' := by
  by_cases hn : 4096 < n
  · have hb := Lib.hid (decide_eq_true hn)
    go_enter Try.func3, Try.ntmps3
    go_wp2_with fail
    refine (big _ _ _ _).mono ?_
    rintro e w' ⟨rfl, rfl⟩
    rw [hb.out]
    go_wp2_with fail
    go_ret
    exact ⟨rfl, Below.refl _ _⟩
  · have hb := Lib.hid (decide_eq_false hn)
    go_enter Try.func3, Try.ntmps3
    go_wp2_with fail
    refine (big _ _ _ _).mono ?_
    rintro e w' ⟨rfl, rfl⟩
    rw [hb.out]
    go_wp2_with fail
    refine (DrawSuitOf A n c _ h (by omega)).mono ?_
    rintro e w1 ⟨r, rfl, ⟨r0, r1⟩, b1⟩
    go_wp2_with fail
    refine (impl_SuitOf _ _).mono ?_
    rintro e w' ⟨rfl, rfl⟩
    go_wp2_with fail
    refine (impl_RankOf _ _).mono ?_
    rintro e w' ⟨rfl, rfl⟩
    go_wp2_with fail
    refine (impl_CardText _ _).mono ?_
    rintro e w2 ⟨rfl, _, c2⟩
    have b2 := Chg.above b1 c2 b1.size (.inr rfl)
    by_cases hc : 0 ≤ r ∧ r ≤ 51
    · have hcv := Lib.hid (card_of_parts hc.1 hc.2)
      have hrd := Lib.hid (rd_text hc.1 hc.2)
      rw [cardTextV_yes hc]
      obtain ⟨h0, h1⟩ := hc
      have n0 : ¬ r < 0 := by omega
      have n1 : ¬ 51 < r := by omega
      have hsz : (textV r).size ≤ 1048576 := by rw [textV_size]; omega
      go_wp2_with fail
      refine (impl_ReadCard _ _ hsz).mono ?_
      rintro e w' ⟨rfl, rfl⟩
      rw [show rdV (textV r) = r by unfold rdV; rw [hrd.out, if_pos h0], show rdB (textV r) = true by unfold rdB; rw [hrd.out, decide_eq_true h0]]
      go_wp2_with fail
      refine (impl_CardOf _ _ _).mono ?_
      rintro e w' ⟨rfl, rfl⟩
      rw [hcv.out]
      clear c2 b1 hsz
      have hB2 : Bytes w2 A n := h.chg (Chg.of_below b2 _ 0)
      go_wp2_with fail
      refine (other A n c 1 _ hB2 hA (by omega) (by omega) (by omega)).mono ?_
      rintro e w3 ⟨A3, c3, rfl, _, hB3, b3⟩
      have b3' := b2.trans (b3.mono b2.size)
      go_wp2_with fail
      refine (DrawReadCard A3 (3 + n) c3 _ hB3 (by omega)).mono ?_
      rintro e w4 ⟨t, rfl, ht, b4⟩
      have b4' := b3'.trans (b4.mono b3'.size)
      go_wp2_with fail
      refine (impl_ReadCard _ _ ht).mono ?_
      rintro e w' ⟨rfl, rfl⟩
      by_cases hok : 0 ≤ rdC t
      · rw [show rdB t = true by unfold rdB; exact decide_eq_true hok]
        have hx : Hid (cardTextV (rdV t) = t) := by
          show cardTextV (rdV t) = t
          unfold rdV
          rw [if_pos hok, cardTextV_yes ⟨hok, by have := rdC_range t; omega⟩, text_of_rd hok]
        generalize rdV t = v at hx
        go_wp2_with fail
        refine (impl_CardText _ _).mono ?_
        rintro e w5 ⟨rfl, _, c5⟩
        rw [hx.out]
        have b5 := Chg.above b4' c5 b4'.size (.inr rfl)
        go_wp2_with fail
        go_ret
        exact ⟨rfl, b5⟩
      · rw [show rdB t = false by unfold rdB; exact decide_eq_false hok, show rdV t = 0 by unfold rdV; rw [if_neg hok]]
        go_wp2_with fail
        go_ret
        exact ⟨rfl, b4'⟩
    · rw [cardTextV_no hc, suitV_no hc, rankV_no hc]
      have hd : r = -1 ∨ r = 52 := by omega
      clear hc
      rcases hd with rfl | rfl
      · go_wp2_with fail
        go_ret
        exact ⟨rfl, b2⟩
      · go_wp2_with fail
        go_ret
        exact ⟨rfl, b2⟩

end Go.Proofs.Ytboagmdpefamgaa.Lib1
