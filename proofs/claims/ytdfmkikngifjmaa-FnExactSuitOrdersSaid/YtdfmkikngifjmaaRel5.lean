/- Chapter 5: a deal and its relative form: lists alone. -/
import Derived.Test.YtdfmkikngifjmaaMade5
namespace Go.Proofs.Ytdfmkikngifjmaa.Lib1
open Go.RowKit
set_option maxRecDepth 100000

theorem relF_suit (h : Int → Int) {c : Int} (_h0 : 0 ≤ c) (_h1 : c ≤ 51) : 13 * (c / 13) ≤ relF h c ∧ relF h c ≤ 13 * (c / 13) + 12 := by
  have := ascF_len h (12 - c % 13).toNat (c + 1)
  unfold relF
  omega
theorem relF_div (h : Int → Int) {c : Int} (h0 : 0 ≤ c) (h1 : c ≤ 51) : relF h c / 13 = c / 13 := by have := relF_suit h h0 h1; omega
theorem relF_mono (h : Int → Int) {c d : Int} (h0 : 0 ≤ c) (h1 : d ≤ 51) (hcd : c < d) (hp : 0 ≤ h d) : relF h c < relF h d := by
  by_cases hs : c / 13 = d / 13
  · obtain ⟨j, hj⟩ : ∃ j : Nat, d = c + 1 + j := ⟨(d - c - 1).toNat, by omega⟩
    have hk : (12 - c % 13).toNat = j + ((12 - d % 13).toNat + 1) := by omega
    have e : ascF h (12 - c % 13).toNat (c + 1) = ascF h j (c + 1) ++ (d :: ascF h (12 - d % 13).toNat (d + 1)) := by
      rw [hk, ascF_add, ascF, ← hj, if_pos hp, List.singleton_append]
    unfold relF
    rw [e, hs, List.length_append, List.length_cons]
    omega
  · have a := relF_suit h h0 (by omega : c ≤ 51)
    have b := relF_suit h (by omega : 0 ≤ d) h1
    omega
section
variable {zss : List (List Int)}
theorem deal_mem (hd : dealB zss = true) {c : Int} (hp : 0 ≤ holderF zss c) : 0 ≤ c ∧ c ≤ 51 := by
  obtain ⟨j, hj, _, hm⟩ := holder_mem hp
  obtain ⟨h4, hr, _⟩ := (deal_iff zss).1 hd
  have := ((hand_iff _).1 (hr j (by omega)).1).2.2 c hm
  omega
theorem relRows_getD (j : Nat) : (relRows zss).getD j [] = (zss.getD j []).map (relF (holderF zss)) := by
  unfold relRows
  by_cases hj : j < zss.length
  · rw [getD_row (by simpa using hj), getD_row hj]; simp
  · rw [List.getD_eq_getElem?_getD, List.getD_eq_getElem?_getD, List.getElem?_eq_none (by simpa using hj), List.getElem?_eq_none (by omega)]; rfl
theorem pair_map {f : Int → Int} : ∀ {l : List Int}, l.Pairwise (· < ·) → (∀ a ∈ l, ∀ b ∈ l, a < b → f a < f b) → (l.map f).Pairwise (· < ·)
  | [], _, _ => List.Pairwise.nil
  | x :: l, h, hf => by
    rw [List.map_cons, List.pairwise_cons]
    refine ⟨fun y hy => ?_, pair_map (List.pairwise_cons.1 h).2 fun a ha b hb => hf a (by simp [ha]) b (by simp [hb])⟩
    obtain ⟨z, hz, rfl⟩ := List.mem_map.1 hy
    exact hf x (by simp) z (by simp [hz]) ((List.pairwise_cons.1 h).1 z hz)
theorem nodup_map {f : Int → Int} : ∀ {l : List Int}, l.Nodup → (∀ a ∈ l, ∀ b ∈ l, f a = f b → a = b) → (l.map f).Nodup
  | [], _, _ => List.nodup_nil
  | x :: l, h, hf => by
    rw [List.map_cons, List.nodup_cons]
    refine ⟨fun hx => ?_, nodup_map (List.nodup_cons.1 h).2 fun a ha b hb => hf a (by simp [ha]) b (by simp [hb])⟩
    obtain ⟨z, hz, e⟩ := List.mem_map.1 hx
    have := hf z (by simp [hz]) x (by simp) e
    subst this
    exact (List.nodup_cons.1 h).1 hz
theorem relF_inj (hd : dealB zss = true) {a b : Int} (ha : 0 ≤ holderF zss a) (hb : 0 ≤ holderF zss b) (e : relF (holderF zss) a = relF (holderF zss) b) : a = b := by
  have a1 := deal_mem hd ha
  have b1 := deal_mem hd hb
  rcases (by omega : a < b ∨ a = b ∨ b < a) with h | h | h
  · have := relF_mono (holderF zss) a1.1 b1.2 h hb; omega
  · exact h
  · have := relF_mono (holderF zss) b1.1 a1.2 h ha; omega
theorem row_held (hd : dealB zss = true) {j : Nat} (hj : j < 4) {x : Int} (hx : x ∈ zss.getD j []) : holderF zss x = (j : Int) := by
  obtain ⟨h4, _, hn⟩ := (deal_iff zss).1 hd
  exact holder_at hn (by omega) hx
theorem rel_deal (hd : dealB zss = true) : dealB (relRows zss) = true := by
  obtain ⟨h4, hr, hn⟩ := (deal_iff zss).1 hd
  refine (deal_iff _).2 ⟨by simpa [relRows] using h4, fun j hj => ?_, ?_⟩
  · have hh := (hand_iff _).1 (hr j hj).1
    refine ⟨(hand_iff _).2 ⟨?_, ?_, ?_⟩, ?_⟩
    · rw [relRows_getD, List.length_map]; exact hh.1
    · rw [relRows_getD]
      refine pair_map hh.2.1 fun a ha b hb hab => ?_
      have a1 := hh.2.2 a ha
      have b1 := hh.2.2 b hb
      exact relF_mono _ (by omega) (by omega) hab (by rw [row_held hd hj hb]; omega)
    · intro x hx
      rw [relRows_getD] at hx
      obtain ⟨c, hc, rfl⟩ := List.mem_map.1 hx
      have c1 := hh.2.2 c hc
      have := relF_suit (holderF zss) (c := c) (by omega) (by omega)
      omega
    · rw [relRows_getD, relRows_getD, List.length_map, List.length_map]; exact (hr j hj).2
  · have e : (relRows zss).flatten = zss.flatten.map (relF (holderF zss)) := by unfold relRows; rw [List.map_flatten]
    rw [e]
    exact nodup_map hn fun a ha b hb => relF_inj hd (holder_iff.2 ha) (holder_iff.2 hb)
theorem rel_holder (hd : dealB zss = true) {c : Int} (hp : 0 ≤ holderF zss c) : holderF (relRows zss) (relF (holderF zss) c) = holderF zss c := by
  obtain ⟨j, hj, e, hm⟩ := holder_mem hp
  have h4 := ((deal_iff zss).1 hd).1
  rw [e]
  refine row_held (rel_deal hd) (by omega) ?_
  rw [relRows_getD]
  exact List.mem_map.2 ⟨c, hm, rfl⟩
theorem rel_play (hd : dealB zss = true) (x : Int) : 0 ≤ holderF (relRows zss) x ↔ ∃ c, 0 ≤ holderF zss c ∧ relF (holderF zss) c = x := by
  constructor
  · intro h
    obtain ⟨j, hj, _, hm⟩ := holder_mem h
    have h4 := ((deal_iff _).1 (rel_deal hd)).1
    rw [relRows_getD] at hm
    obtain ⟨c, hc, rfl⟩ := List.mem_map.1 hm
    exact ⟨c, by rw [row_held hd (by omega) hc]; omega, rfl⟩
  · rintro ⟨c, hc, rfl⟩
    rw [rel_holder hd hc]; exact hc
theorem rel_suit (hd : dealB zss = true) (q : Nat) : suitA (holderF (relRows zss)) q = (suitA (holderF zss) q).map (relF (holderF zss)) := by
  have hs : (suitA (holderF zss) q).Pairwise (· < ·) := ascF_strict _ _ _
  refine strict_eq _ _ (ascF_strict _ _ _) (pair_map hs fun a ha b hb hab => ?_) fun x => ?_
  · have a1 := (mem_ascF _ _ _ _).1 ha
    have b1 := (mem_ascF _ _ _ _).1 hb
    have c1 := deal_mem hd a1.2.2
    have d1 := deal_mem hd b1.2.2
    exact relF_mono _ c1.1 d1.2 hab b1.2.2
  · unfold suitA
    rw [mem_ascF, rel_play hd, List.mem_map]
    constructor
    · rintro ⟨h1, h2, c, hc, rfl⟩
      have c1 := deal_mem hd hc
      have := relF_div (holderF zss) c1.1 c1.2
      exact ⟨c, (mem_ascF _ _ _ _).2 ⟨by omega, by omega, hc⟩, rfl⟩
    · rintro ⟨c, hc, rfl⟩
      have hm := (mem_ascF _ _ _ _).1 hc
      have c1 := deal_mem hd hm.2.2
      have := relF_div (holderF zss) c1.1 c1.2
      exact ⟨by omega, by omega, c, hm.2.2, rfl⟩
theorem rel_lists (hd : dealB zss = true) : ∀ q, listsTo (holderF (relRows zss)) q = listsTo (holderF zss) q
  | 0 => rfl
  | q + 1 => by
    rw [listsTo, listsTo, rel_lists hd q]
    congr 2
    unfold listQ
    rw [rel_suit hd, ← List.map_reverse, List.map_map]
    refine List.map_congr_left fun c hc => ?_
    exact rel_holder hd ((mem_ascF _ _ _ _).1 (List.mem_reverse.1 hc)).2.2
/-- The relative form is its own. -/
theorem rel_rel (hd : dealB zss = true) : relRows (relRows zss) = relRows zss := by
  rw [← made_rel (rel_deal hd), rel_lists hd, made_rel hd]
end
/-! ### Runs of a list whose elements are replaced -/
theorem startsP_map {p p' : Int → Bool} {f : Int → Int} : ∀ {l : List Int}, (∀ x ∈ l, p (f x) = p' x) → startsP p (l.map f) = startsP p' l
  | [], _ => rfl
  | x :: l, h => h x (by simp)
theorem pushLast_map {f : Int → Int} (gs : List (List Int)) (c : Int) : pushLast (gs.map (List.map f)) (f c) = (pushLast gs c).map (List.map f) := by
  unfold pushLast
  rw [List.length_map, List.map_set, List.map_append]
  congr 2
  rw [List.getD_eq_getElem?_getD, List.getD_eq_getElem?_getD, List.getElem?_map]
  cases gs[gs.length - 1]? <;> rfl
theorem runs_map {p p' : Int → Bool} {f : Int → Int} : ∀ {l : List Int}, (∀ x ∈ l, p (f x) = p' x) → runsR p (l.map f) = (runsR p' l).map (List.map f)
  | [], _ => rfl
  | x :: l, h => by
    have ih := runs_map (l := l) fun y hy => h y (by simp [hy])
    have hs := startsP_map (l := l) (p := p) (p' := p') (f := f) fun y hy => h y (by simp [hy])
    rw [List.map_cons, runsR, runsR, ih, hs, h x (by simp)]
    split
    · split
      · exact pushLast_map _ _
      · simp
    · rfl
theorem rel_runs {zss : List (List Int)} (hd : dealB zss = true) (s : Int) : ∀ q, runsTo (holderF (relRows zss)) s q = (runsTo (holderF zss) s q).map (List.map (relF (holderF zss)))
  | 0 => rfl
  | q + 1 => by
    rw [runsTo, runsTo, rel_runs hd s q, List.map_append]
    congr 1
    unfold runsS
    rw [rel_suit hd, ← List.map_reverse]
    refine runs_map fun c hc => ?_
    rw [rel_holder hd ((mem_ascF _ _ _ _).1 (List.mem_reverse.1 hc)).2.2]

end Go.Proofs.Ytdfmkikngifjmaa.Lib1
