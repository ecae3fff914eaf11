/- Chapter 3: the program's CardsOfDeal. -/
import Derived.Test.YtklboaabcmghcaaCatI
import Derived.Test.YtklboaabcmghcaaSortI
namespace Go.Proofs.Ytklboaabcmghcaa.Lib1
open Go.RowKit
set_option maxRecDepth 100000

theorem flat_len {zss : List (List Int)} (h : dealB zss = true) : zss.flatten.length ≤ 52 := by
  obtain ⟨h4, hr, _⟩ := (deal_iff zss).1 h
  match zss, h4 with
  | [a, b, c, d], _ =>
    have h0 := hand_len (hr 0 (by omega)).1
    have h1 := hand_len (hr 1 (by omega)).1
    have h2 := hand_len (hr 2 (by omega)).1
    have h3 := hand_len (hr 3 (by omega)).1
    simp at h0 h1 h2 h3 ⊢
    omega
set_option maxHeartbeats 1000000 in
theorem cardsOfDeal (A : Option Addr) (n c : Nat) (zss : List (List Int)) (lo hi : Nat) (w : World) (h : RdR w lo hi A n zss) :
    Calls Try.prog 41 #[.agg #[.slice A n c]] w (RetS w (dealCards zss)) := by
  have hz := h.1
  have hbx := box_at w (.slice A n c) 36
  have hca := Lib.hid (Chg.of_alloc w (.cells #[.slice A n c] 36) 0 0)
  cases hd : dealB zss with
  | false =>
    rw [show dealCards zss = [] by simp [dealCards, hd]]
    have HD := Lib.hid hd
    clear hd
    go_enter Try.func41, Try.ntmps41
    go_wp2_with fail
    refine (isDeal A n c zss lo hi _ (h.still hca.out)).mono ?_
    rintro e w1 ⟨rfl, c1⟩
    rw [HD.out]
    go_wp2_with fail
    go_ret
    exact ⟨none, 0, rfl, Nat.le_refl _, Plain.nil_, Own.none_, hca.out.trans c1⟩
  | true =>
    rw [show dealCards zss = cardsF zss 52 by simp [dealCards, hd]]
    have HD := Lib.hid hd
    have hso := Lib.hid (cards_sort hd)
    have h4 : n = 4 := by rw [← hz]; exact ((deal_iff zss).1 hd).1
    have hfl := Lib.hid (flat_len hd)
    subst h4
    clear hd
    have hcat : Hid (catTo (fun j => zss.getD j []) 4 = zss.flatten) := by show _ = _; rw [← hz]; exact catTo_rows zss
    go_enter Try.func41, Try.ntmps41
    go_wp2_with fail
    refine (isDeal A 4 c zss lo hi _ (h.still hca.out)).mono ?_
    rintro e w1 ⟨rfl, c1⟩
    rw [HD.out]
    have hb1 := box_still hbx c1
    have k1 := Lib.hid (hca.out.trans c1)
    obtain ⟨_, B, C, hc, hr⟩ := h.still k1.out
    obtain ⟨b, off, rfl, _, _, hcell⟩ := hc (by omega)
    clear c1 hbx hc
    go_wp2_with fail
    refine (ConcatO b off 4 c B (fun j => (zss.getD j []).length) C (fun j => zss.getD j []) w1 hcell (fun j hj => (hr j hj).1.all) (fun j hj => (hr j hj).2.2) (by omega) (by rw [hcat.out]; have := hfl.out; omega)).mono ?_
    rintro e w2 ⟨v, rfl, o2, b2⟩
    rw [hcat.out] at o2
    go_wp2_with fail
    refine (sort64 o2 (by have := hfl.out; omega) b2.size).mono ?_
    rintro e w3 ⟨rfl, o3, b3⟩
    rw [hso.out] at o3
    have b23 := b2.trans b3
    go_wp2_with fail
    go_ret
    obtain ⟨A3, c3, rfl, q1, q2, q3⟩ := o3.form
    exact ⟨A3, c3, rfl, q1, q2, q3.more k1.out.size (Nat.le_refl _), k1.out.trans (Chg.of_below b23 _ _)⟩

end Go.Proofs.Ytklboaabcmghcaa.Lib1
