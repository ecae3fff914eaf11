/- Chapter 3, lists alone: a list of suits and its inverse. -/
import Derived.Test.YtdfmkikngifjmaaL03x
namespace Go.Proofs.Ytdfmkikngifjmaa.Lib1
open Go.RowKit
set_option maxRecDepth 100000

/-- The inverse of a list of suits, as far as it is made. -/
def backTo (to : List Int) : Nat → List Int
  | 0 => [0, 0, 0, 0]
  | k + 1 => (backTo to k).set (to.getD k 0).toNat k
theorem backTo_length (to : List Int) : ∀ k, (backTo to k).length = 4
  | 0 => rfl
  | k + 1 => by rw [backTo, List.length_set, backTo_length to k]
def backOk (to : List Int) : Bool := orderB (backTo to 4) && ((List.range 4).all fun s => decide ((backTo to 4).getD (to.getD s 0).toNat 0 = (s : Int)))
theorem back_all : ∀ a b c d : Fin 4, orderB [(a.val : Int), (b.val : Int), (c.val : Int), (d.val : Int)] = true → backOk [(a.val : Int), (b.val : Int), (c.val : Int), (d.val : Int)] = true := by decide +kernel
theorem back_ok {to : List Int} (h : orderB to = true) : backOk to = true := by
  obtain ⟨h4, hr⟩ := order_range h
  match to, h4 with
  | [a, b, c, d], _ =>
    have ha := hr 0 (by omega)
    have hb := hr 1 (by omega)
    have hc := hr 2 (by omega)
    have hd := hr 3 (by omega)
    simp at ha hb hc hd
    obtain ⟨a', rfl⟩ : ∃ k : Nat, a = k := ⟨a.toNat, by omega⟩
    obtain ⟨b', rfl⟩ : ∃ k : Nat, b = k := ⟨b.toNat, by omega⟩
    obtain ⟨c', rfl⟩ : ∃ k : Nat, c = k := ⟨c.toNat, by omega⟩
    obtain ⟨d', rfl⟩ : ∃ k : Nat, d = k := ⟨d.toNat, by omega⟩
    exact back_all ⟨a', by omega⟩ ⟨b', by omega⟩ ⟨c', by omega⟩ ⟨d', by omega⟩ h
theorem back_order {to : List Int} (h : orderB to = true) : orderB (backTo to 4) = true := by
  have := back_ok h
  simp only [backOk, Bool.and_eq_true] at this
  exact this.1
theorem back_at {to : List Int} (h : orderB to = true) {s : Nat} (hs : s < 4) : (backTo to 4).getD (to.getD s 0).toNat 0 = (s : Int) := by
  have := back_ok h
  simp only [backOk, Bool.and_eq_true, List.all_eq_true, decide_eq_true_eq] at this
  exact this.2 s (by simp; omega)
theorem back_suit {to : List Int} (h : orderB to = true) (x : Int) (h0 : 0 ≤ x) (h1 : x ≤ 51) : newSuit (backTo to 4) (newSuit to x) = x := by
  obtain ⟨_, hr⟩ := order_range h
  obtain ⟨s, hs⟩ : ∃ s : Nat, x / 13 = s := ⟨(x / 13).toNat, by omega⟩
  have hs4 : s < 4 := by omega
  have ht := hr s hs4
  have hb := back_at h hs4
  have e1 : newSuit to x = 13 * to.getD s 0 + x % 13 := by unfold newSuit; rw [hs]; simp
  rw [e1]
  unfold newSuit
  have e2 : (13 * to.getD s 0 + x % 13) / 13 = to.getD s 0 := by omega
  have e3 : (13 * to.getD s 0 + x % 13) % 13 = x % 13 := by omega
  rw [e2, e3, hb]
  omega
theorem perm_back {zss : List (List Int)} {to : List Int} (hd : dealB zss = true) (ho : orderB to = true) : permV (permV zss to) (backTo to 4) = zss ∧ permE (permV zss to) (backTo to 4) = 0 := by
  have h4 := ((deal_iff zss).1 hd).1
  have e1 : permV zss to = mapD (newSuit to) zss := by simp [permV, hd, ho, perm_mapD h4]
  have hd2 := mapD_deal (newSuit_inj ho) (newSuit_onto ho) hd
  have hb := back_order ho
  rw [e1]
  constructor
  · have e2 : permV (mapD (newSuit to) zss) (backTo to 4) = mapD (newSuit (backTo to 4)) (mapD (newSuit to) zss) := by
      simp [permV, hd2, hb, perm_mapD (show (mapD (newSuit to) zss).length = 4 by rw [mapD_length]; exact h4)]
    rw [e2]
    exact mapD_back (newSuit_inj ho) (newSuit_onto ho) (newSuit_inj hb) (fun x h0 h1 => back_suit ho x h0 h1) hd
  · simp [permE, hd2, hb]

end Go.Proofs.Ytdfmkikngifjmaa.Lib1
