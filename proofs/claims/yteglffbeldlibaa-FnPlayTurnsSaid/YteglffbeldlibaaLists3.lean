/- Chapter 3, lists alone: the symmetries of deals can be undone. No function of the program. Chapter 3, lists alone: cards replaced one for one in all hands; suits exchanged, two cards exchanged. Chapter 3, lists alone: holders of cards; two cards exchanged in all hands is the two hands anew; the cards of a deal. Chapter 3, lists alone: a list of suits and its inverse. -/
import Derived.Test.YteglffbeldlibaaS03r
import Derived.Test.YteglffbeldlibaaS03p
import Derived.Test.YteglffbeldlibaaTwo
namespace Go.Proofs.Yteglffbeldlibaa.Lib1

section
open Go.RowKit
set_option maxRecDepth 100000

theorem four_rows {zss : List (List Int)} (h : zss.length = 4) : ∃ a b c d, zss = [a, b, c, d] := by
  match zss, h with
  | [a, b, c, d], _ => exact ⟨a, b, c, d, rfl⟩
theorem deal_four (a b c d : List Int) : dealB [a, b, c, d] = true ↔ (handB a = true ∧ handB b = true ∧ handB c = true ∧ handB d = true) ∧ (b.length = a.length ∧ c.length = a.length ∧ d.length = a.length) ∧ (a ++ (b ++ (c ++ d))).Nodup := by
  rw [deal_iff]
  have hf : [a, b, c, d].flatten = a ++ (b ++ (c ++ d)) := by simp
  rw [hf]
  constructor
  · rintro ⟨_, hr, hn⟩
    have h0 := hr 0 (by omega)
    have h1 := hr 1 (by omega)
    have h2 := hr 2 (by omega)
    have h3 := hr 3 (by omega)
    exact ⟨⟨h0.1, h1.1, h2.1, h3.1⟩, ⟨h1.2, h2.2, h3.2⟩, hn⟩
  · rintro ⟨⟨h0, h1, h2, h3⟩, ⟨l1, l2, l3⟩, hn⟩
    refine ⟨rfl, fun t ht => ?_, hn⟩
    have hq : t = 0 ∨ t = 1 ∨ t = 2 ∨ t = 3 := by omega
    rcases hq with rfl | rfl | rfl | rfl
    · exact ⟨h0, rfl⟩
    · exact ⟨h1, l1⟩
    · exact ⟨h2, l2⟩
    · exact ⟨h3, l3⟩
/-- A deal turned by one seat. -/
theorem rot_one (a b c d : List Int) : rotTo [a, b, c, d] 1 4 = [d, a, b, c] := rfl
theorem rot_two (a b c d : List Int) : rotTo [a, b, c, d] 2 4 = [c, d, a, b] := rfl
theorem rot_three (a b c d : List Int) : rotTo [a, b, c, d] 3 4 = [b, c, d, a] := rfl
theorem rot_none (a b c d : List Int) : rotTo [a, b, c, d] 0 4 = [a, b, c, d] := rfl
theorem deal_turn {a b c d : List Int} (h : dealB [a, b, c, d] = true) : dealB [d, a, b, c] = true := by
  rw [deal_four] at h ⊢
  obtain ⟨⟨h0, h1, h2, h3⟩, ⟨l1, l2, l3⟩, hn⟩ := h
  refine ⟨⟨h3, h0, h1, h2⟩, ⟨by omega, by omega, by omega⟩, ?_⟩
  have p : (a ++ (b ++ (c ++ d))).Perm (d ++ (a ++ (b ++ c))) := by
    have := List.perm_append_comm (l₁ := a ++ (b ++ c)) (l₂ := d)
    simpa using this
  exact p.nodup_iff.1 hn
theorem deal_turns {zss : List (List Int)} (h : dealB zss = true) {k : Int} (h0 : 0 ≤ k) (h3 : k ≤ 3) : dealB (rotTo zss k 4) = true := by
  obtain ⟨a, b, c, d, rfl⟩ := four_rows ((deal_iff zss).1 h).1
  have hq : k = 0 ∨ k = 1 ∨ k = 2 ∨ k = 3 := by omega
  rcases hq with rfl | rfl | rfl | rfl
  · rw [rot_none]; exact h
  · rw [rot_one]; exact deal_turn h
  · rw [rot_two]; exact deal_turn (deal_turn h)
  · rw [rot_three]; exact deal_turn (deal_turn (deal_turn h))
theorem rotV_yes {zss : List (List Int)} (h : dealB zss = true) {k : Int} (h0 : 0 ≤ k) (h3 : k ≤ 3) : rotV zss k = rotTo zss k 4 ∧ rotE zss k = 0 := by
  have hk : inB k 0 3 = true := inB_true ⟨h0, h3⟩
  simp [rotV, rotE, h, hk]
/-- Four rotations by one seat restore a deal. -/
theorem rot_four {zss : List (List Int)} (h : dealB zss = true) : rotV (rotV (rotV (rotV zss 1) 1) 1) 1 = zss := by
  obtain ⟨a, b, c, d, rfl⟩ := four_rows ((deal_iff zss).1 h).1
  have d1 := deal_turn h
  have d2 := deal_turn d1
  have d3 := deal_turn d2
  rw [(rotV_yes h (by omega) (by omega)).1, rot_one, (rotV_yes d1 (by omega) (by omega)).1, rot_one, (rotV_yes d2 (by omega) (by omega)).1, rot_one, (rotV_yes d3 (by omega) (by omega)).1, rot_one]
/-- A rotation by three seats and one by one restore a deal. -/
theorem rot_back {zss : List (List Int)} (h : dealB zss = true) : rotV (rotV zss 3) 1 = zss := by
  have hd := deal_turns h (k := 3) (by omega) (by omega)
  rw [(rotV_yes h (by omega) (by omega)).1, (rotV_yes hd (by omega) (by omega)).1]
  obtain ⟨a, b, c, d, rfl⟩ := four_rows ((deal_iff zss).1 h).1
  rw [rot_three, rot_one]
theorem mirror_four (a b c d : List Int) : swapR [a, b, c, d] 1 3 = [a, d, c, b] := rfl
theorem deal_mirror {zss : List (List Int)} (h : dealB zss = true) : dealB (swapR zss 1 3) = true := by
  obtain ⟨a, b, c, d, rfl⟩ := four_rows ((deal_iff zss).1 h).1
  rw [mirror_four]
  rw [deal_four] at h ⊢
  obtain ⟨⟨h0, h1, h2, h3⟩, ⟨l1, l2, l3⟩, hn⟩ := h
  refine ⟨⟨h0, h3, h2, h1⟩, ⟨by omega, by omega, by omega⟩, ?_⟩
  have p : (b ++ (c ++ d)).Perm (d ++ (c ++ b)) := by
    have q1 : (b ++ (c ++ d)).Perm ((c ++ d) ++ b) := List.perm_append_comm
    have q2 : ((c ++ d) ++ b).Perm ((d ++ c) ++ b) := List.Perm.append_right b List.perm_append_comm
    have := q1.trans q2
    simpa using this
  exact (List.Perm.append_left a p).nodup_iff.1 hn
/-- Two mirror images restore a deal. -/
theorem mirror_twice {zss : List (List Int)} (h : dealB zss = true) : mirrorV (mirrorV zss) = zss := by
  have hd := deal_mirror h
  rw [show mirrorV zss = swapR zss 1 3 by simp [mirrorV, h], show mirrorV (swapR zss 1 3) = swapR (swapR zss 1 3) 1 3 by simp [mirrorV, hd]]
  obtain ⟨a, b, c, d, rfl⟩ := four_rows ((deal_iff zss).1 h).1
  rw [mirror_four, mirror_four]
end

section
open Go.RowKit
set_option maxRecDepth 100000

/-- Each card of a hand replaced, and the hand sorted again. -/
def mapH (f : Int → Int) (row : List Int) : List Int := sortI (row.map f)
def mapD (f : Int → Int) (zss : List (List Int)) : List (List Int) := zss.map (mapH f)
/-- Different cards have different replacements. -/
def Inj (f : Int → Int) : Prop := ∀ x y, 0 ≤ x → x ≤ 51 → 0 ≤ y → y ≤ 51 → f x = f y → x = y
def Onto (f : Int → Int) : Prop := ∀ x, 0 ≤ x → x ≤ 51 → 0 ≤ f x ∧ f x ≤ 51
theorem mapH_length (f : Int → Int) (row : List Int) : (mapH f row).length = row.length := by simp [mapH, sortI_length]
theorem mem_mapH (f : Int → Int) (row : List Int) (z : Int) : z ∈ mapH f row ↔ ∃ y ∈ row, f y = z := by rw [mapH, mem_sortI, List.mem_map]
theorem mapD_length (f : Int → Int) (zss : List (List Int)) : (mapD f zss).length = zss.length := by simp [mapD]
theorem mapD_getD (f : Int → Int) (zss : List (List Int)) (j : Nat) (h : j < zss.length) : (mapD f zss).getD j [] = mapH f (zss.getD j []) := by
  rw [getD_row (by rw [mapD_length]; exact h), getD_row h]; simp [mapD]
theorem map_nodup {f : Int → Int} (hf : Inj f) : ∀ l : List Int, l.Nodup → (∀ z ∈ l, 0 ≤ z ∧ z ≤ 51) → (l.map f).Nodup
  | [], _, _ => by simp
  | a :: l, h, hr => by
    rw [List.nodup_cons] at h
    rw [List.map_cons, List.nodup_cons]
    refine ⟨fun hm => ?_, map_nodup hf l h.2 (fun z hz => hr z (by simp [hz]))⟩
    obtain ⟨y, hy, e⟩ := List.mem_map.1 hm
    have h1 := hr a (by simp)
    have h2 := hr y (by simp [hy])
    have := hf y a h2.1 h2.2 h1.1 h1.2 e
    exact h.1 (this ▸ hy)
theorem mapH_strict {f : Int → Int} (hf : Inj f) {row : List Int} (h : handB row = true) : (mapH f row).Pairwise (· < ·) := by
  obtain ⟨_, h2, h3⟩ := (hand_iff row).1 h
  exact sortI_strict (map_nodup hf row (strict_nodup h2) h3)
theorem mapH_hand {f : Int → Int} (hf : Inj f) (ho : Onto f) {row : List Int} (h : handB row = true) : handB (mapH f row) = true := by
  obtain ⟨h1, h2, h3⟩ := (hand_iff row).1 h
  rw [hand_iff]
  refine ⟨by rw [mapH_length]; exact h1, mapH_strict hf h, fun z hz => ?_⟩
  obtain ⟨y, hy, rfl⟩ := (mem_mapH f row z).1 hz
  exact ho y (h3 y hy).1 (h3 y hy).2
theorem flatten_perm (f : Int → Int) : ∀ zss : List (List Int), (mapD f zss).flatten.Perm (zss.flatten.map f)
  | [] => List.Perm.refl _
  | r :: zss => by
    rw [mapD, List.map_cons, List.flatten_cons, List.flatten_cons, List.map_append]
    exact (sortI_perm (r.map f)).append (flatten_perm f zss)
theorem deal_range {zss : List (List Int)} (h : dealB zss = true) : ∀ z ∈ zss.flatten, 0 ≤ z ∧ z ≤ 51 := by
  obtain ⟨h4, hr, _⟩ := (deal_iff zss).1 h
  intro z hz
  obtain ⟨r, hrm, hzr⟩ := List.mem_flatten.1 hz
  obtain ⟨j, hj, e⟩ := List.getElem_of_mem hrm
  have h1 := (hr j (by omega)).1
  rw [getD_row hj, e] at h1
  exact ((hand_iff r).1 h1).2.2 z hzr
theorem mapD_deal {f : Int → Int} (hf : Inj f) (ho : Onto f) {zss : List (List Int)} (h : dealB zss = true) : dealB (mapD f zss) = true := by
  have hrg := deal_range h
  obtain ⟨h4, hr, hn⟩ := (deal_iff zss).1 h
  refine deal_yes (by rw [mapD_length]; exact h4) (fun t ht => ?_) ((flatten_perm f zss).nodup_iff.2 (map_nodup hf _ hn hrg))
  rw [mapD_getD f zss t (by omega), mapD_getD f zss 0 (by omega), mapH_length, mapH_length]
  exact ⟨mapH_hand hf ho (hr t ht).1, (hr t ht).2⟩
theorem mapH_back {f g : Int → Int} (hf : Inj f) (ho : Onto f) (hg : Inj g) (hb : ∀ x, 0 ≤ x → x ≤ 51 → g (f x) = x) {row : List Int} (h : handB row = true) : mapH g (mapH f row) = row := by
  obtain ⟨_, h2, h3⟩ := (hand_iff row).1 h
  refine strict_eq _ _ (mapH_strict hg (mapH_hand hf ho h)) h2 (fun z => ?_)
  rw [mem_mapH]
  constructor
  · rintro ⟨y, hy, rfl⟩
    obtain ⟨x, hx, rfl⟩ := (mem_mapH f row y).1 hy
    rw [hb x (h3 x hx).1 (h3 x hx).2]; exact hx
  · intro hz
    exact ⟨f z, (mem_mapH f row _).2 ⟨z, hz, rfl⟩, hb z (h3 z hz).1 (h3 z hz).2⟩
theorem rows_eq {a b : List (List Int)} (hl : a.length = b.length) (h : ∀ j, j < b.length → a.getD j [] = b.getD j []) : a = b := by
  apply List.ext_getElem hl
  intro j h1 h2
  have := h j h2
  rwa [getD_row h1, getD_row h2] at this
theorem mapD_back {f g : Int → Int} (hf : Inj f) (ho : Onto f) (hg : Inj g) (hb : ∀ x, 0 ≤ x → x ≤ 51 → g (f x) = x) {zss : List (List Int)} (h : dealB zss = true) : mapD g (mapD f zss) = zss := by
  obtain ⟨h4, hr, _⟩ := (deal_iff zss).1 h
  refine rows_eq (by simp [mapD_length]) (fun j hj => ?_)
  rw [mapD_getD g _ j (by rw [mapD_length]; exact hj), mapD_getD f zss j hj]
  exact mapH_back hf ho hg hb (hr j (by omega)).1

/-! ### Suits -/
theorem permTo_perm (row to : List Int) : ∀ i, i ≤ row.length → (permTo row to i).Perm ((row.take i).map (newSuit to))
  | 0, _ => by simp [permTo]
  | i + 1, h => by
    rw [permTo, take_snoc row i (by omega), List.map_append]
    refine (ins_perm _ _).trans ?_
    refine ((permTo_perm row to i (by omega)).cons _).trans ?_
    exact (List.perm_append_singleton _ _).symm
theorem permTo_le (row to : List Int) : ∀ i, (permTo row to i).Pairwise (· ≤ ·)
  | 0 => List.Pairwise.nil
  | i + 1 => ins_le _ _ (permTo_le row to i)
theorem perm_sort (row to : List Int) : permF row to = mapH (newSuit to) row := by
  refine rising_eq (permTo_le row to _) (sortI_le _) ?_
  have h := permTo_perm row to row.length (Nat.le_refl _)
  rw [List.take_length] at h
  exact h.trans (sortI_perm _).symm
theorem perm_mapD {zss : List (List Int)} {to : List Int} (h : zss.length = 4) : permRows zss to 4 = mapD (newSuit to) zss := by
  obtain ⟨a, b, c, d, rfl⟩ := four_rows h
  show [permF a to, permF b to, permF c to, permF d to] = [mapH _ a, mapH _ b, mapH _ c, mapH _ d]
  rw [perm_sort, perm_sort, perm_sort, perm_sort]
theorem order_inj {to : List Int} (h : orderB to = true) : ∀ i j, i < 4 → j < 4 → to.getD i 0 = to.getD j 0 → i = j := by
  simp only [orderB, hasB, Bool.and_eq_true, decide_eq_true_eq] at h
  obtain ⟨h4, m0, m1, m2, m3⟩ := h
  match to, h4 with
  | [a, b, c, d], _ =>
    simp only [List.mem_cons, List.not_mem_nil, or_false] at m0 m1 m2 m3
    intro i j hi hj
    have hq : i = 0 ∨ i = 1 ∨ i = 2 ∨ i = 3 := by omega
    have hp : j = 0 ∨ j = 1 ∨ j = 2 ∨ j = 3 := by omega
    rcases hq with rfl | rfl | rfl | rfl <;> rcases hp with rfl | rfl | rfl | rfl <;> simp <;> omega
theorem newSuit_onto {to : List Int} (h : orderB to = true) : Onto (newSuit to) := by
  obtain ⟨_, hr⟩ := order_range h
  intro x h0 h1
  have := hr (x / 13).toNat (by omega)
  unfold newSuit
  omega
theorem newSuit_inj {to : List Int} (h : orderB to = true) : Inj (newSuit to) := by
  obtain ⟨_, hr⟩ := order_range h
  intro x y x0 x1 y0 y1 e
  have hx := hr (x / 13).toNat (by omega)
  have hy := hr (y / 13).toNat (by omega)
  have hi := order_inj h (x / 13).toNat (y / 13).toNat (by omega) (by omega)
  unfold newSuit at e
  have := hi (by omega)
  omega

/-! ### Two cards -/
def exch (a b z : Int) : Int := if z = a then b else if z = b then a else z
theorem exch_twice (a b z : Int) : exch a b (exch a b z) = z := by unfold exch; repeat' split
                                                                   all_goals omega
theorem exch_inj (a b : Int) : Inj (exch a b) := fun x y _ _ _ _ e => by rw [← exch_twice a b x, e, exch_twice]
theorem exch_onto {a b : Int} (ha : 0 ≤ a ∧ a ≤ 51) (hb : 0 ≤ b ∧ b ≤ 51) : Onto (exch a b) := fun x h0 h1 => by
  unfold exch
  split
  · exact hb
  · split
    · exact ha
    · exact ⟨h0, h1⟩
def exFound (zss : List (List Int)) (a b : Int) : Bool := decide (0 ≤ holderF zss a) && decide (0 ≤ holderF zss b)
/-- The two hands anew. -/
def exRows (zss : List (List Int)) (a b : Int) : List (List Int) :=
  if holderF zss a = holderF zss b then zss else
    (zss.set (holderF zss a).toNat (ins b (dropF a (zss.getD (holderF zss a).toNat [])))).set (holderF zss b).toNat (ins a (dropF b (zss.getD (holderF zss b).toNat [])))
def exV (zss : List (List Int)) (a b : Int) : List (List Int) := if dealB zss && exFound zss a b then exRows zss a b else []
def exE (zss : List (List Int)) (a b : Int) : Int := if dealB zss then (if exFound zss a b then 0 else 4) else 1
end

section
open Go.RowKit
set_option maxRecDepth 100000

/-! ### Holders -/
theorem hasB_iff (l : List Int) (c : Int) : hasB l c = true ↔ c ∈ l := by simp [hasB]
theorem hasB_niff (l : List Int) (c : Int) : hasB l c = false ↔ c ∉ l := by simp [hasB]
theorem holdTo_mem {zss : List (List Int)} {c : Int} : ∀ k, 0 ≤ holdTo zss c k → ∃ j : Nat, j < k ∧ holdTo zss c k = j ∧ c ∈ zss.getD j []
  | 0, h => by simp [holdTo] at h
  | k + 1, h => by
    rw [holdTo] at h ⊢
    by_cases e : holdTo zss c k = -1
    · rw [if_pos e] at h ⊢
      cases hh : hasB (zss.getD k []) c
      · rw [hh] at h; simp at h
      · exact ⟨k, by omega, by simp, (hasB_iff _ _).1 hh⟩
    · rw [if_neg e] at h ⊢
      obtain ⟨j, hj, e1, e2⟩ := holdTo_mem k h
      exact ⟨j, by omega, e1, e2⟩
theorem holdTo_none {zss : List (List Int)} {c : Int} : ∀ k, holdTo zss c k = -1 → ∀ j, j < k → c ∉ zss.getD j []
  | 0, _, j, hj => by omega
  | k + 1, h, j, hj => by
    rw [holdTo] at h
    by_cases e : holdTo zss c k = -1
    · rw [if_pos e] at h
      cases hh : hasB (zss.getD k []) c
      · by_cases ej : j = k
        · subst ej; exact (hasB_niff _ _).1 hh
        · exact holdTo_none k e j (by omega)
      · rw [hh] at h; simp at h
    · rw [if_neg e] at h; exact absurd h e
theorem one_row {zss : List (List Int)} (h : zss.flatten.Nodup) {i j : Nat} (hi : i < zss.length) (hj : j < zss.length) {c : Int} (ci : c ∈ zss.getD i []) (cj : c ∈ zss.getD j []) : i = j := by
  rw [getD_row hi] at ci
  rw [getD_row hj] at cj
  have hp := (List.pairwise_flatten.1 h).2
  rw [List.pairwise_iff_getElem] at hp
  rcases Nat.lt_trichotomy i j with e | e | e
  · exact absurd rfl (hp i j hi hj e c ci c cj)
  · exact e
  · exact absurd rfl (hp j i hj hi e c cj c ci)
theorem holder_at {zss : List (List Int)} (h : zss.flatten.Nodup) {j : Nat} (hj : j < zss.length) {c : Int} (cj : c ∈ zss.getD j []) : holderF zss c = j := by
  unfold holderF
  rcases holdTo_range zss c zss.length with e | e
  · exact absurd cj (holdTo_none _ e j hj)
  · obtain ⟨i, hi, e1, e2⟩ := holdTo_mem _ e.1
    rw [e1, one_row h hi hj e2 cj]
theorem holder_mem {zss : List (List Int)} {c : Int} (h : 0 ≤ holderF zss c) : ∃ j : Nat, j < zss.length ∧ holderF zss c = j ∧ c ∈ zss.getD j [] := holdTo_mem _ h
theorem holder_not {zss : List (List Int)} {c : Int} (h : ¬ 0 ≤ holderF zss c) : holderF zss c = -1 := by
  rcases holdTo_range zss c zss.length with e | e
  · exact e
  · exact absurd e.1 h
theorem holder_iff {zss : List (List Int)} {c : Int} : 0 ≤ holderF zss c ↔ c ∈ zss.flatten := by
  constructor
  · intro h
    obtain ⟨j, hj, _, hm⟩ := holder_mem h
    rw [getD_row hj] at hm
    exact List.mem_flatten.2 ⟨_, List.getElem_mem hj, hm⟩
  · intro h
    obtain ⟨r, hr, hc⟩ := List.mem_flatten.1 h
    obtain ⟨j, hj, e⟩ := List.getElem_of_mem hr
    rcases holdTo_range zss c zss.length with q | q
    · exact absurd (by rw [getD_row hj, e]; exact hc) (holdTo_none _ q j hj)
    · exact q.1
theorem mem_exch (a b z : Int) (row : List Int) : z ∈ mapH (exch a b) row ↔ exch a b z ∈ row := by
  rw [mem_mapH]
  constructor
  · rintro ⟨y, hy, rfl⟩; rw [exch_twice]; exact hy
  · intro h; exact ⟨_, h, exch_twice a b z⟩
theorem mem_drop (x z : Int) (l : List Int) : z ∈ dropF x l ↔ z ∈ l ∧ z ≠ x := by simp [dropF, List.mem_filter]
theorem dropF_strict {x : Int} {l : List Int} (h : l.Pairwise (· < ·)) : (dropF x l).Pairwise (· < ·) := h.sublist (List.filter_sublist)
theorem ex_row {a b : Int} {row : List Int} (ha : a ∈ row) (hb : b ∉ row) (z : Int) : z ∈ ins b (dropF a row) ↔ exch a b z ∈ row := by
  rw [mem_ins, mem_drop]
  have hab : a ≠ b := fun e => hb (e ▸ ha)
  unfold exch
  by_cases e1 : z = a
  · subst e1
    rw [if_pos rfl]
    constructor
    · rintro (e | e)
      · exact absurd e hab
      · exact absurd rfl e.2
    · intro e; exact absurd e hb
  · rw [if_neg e1]
    by_cases e2 : z = b
    · rw [if_pos e2]
      exact ⟨fun _ => ha, fun _ => .inl e2⟩
    · rw [if_neg e2]
      exact ⟨fun q => by rcases q with q | q
                         · exact absurd q e2
                         · exact q.1, fun q => .inr ⟨q, e1⟩⟩
theorem exch_comm (a b z : Int) : exch a b z = exch b a z := by unfold exch; (repeat' split) <;> omega
theorem exch_none {a b : Int} {row : List Int} (ha : a ∉ row) (hb : b ∉ row) (z : Int) : z ∈ row ↔ exch a b z ∈ row := by
  unfold exch
  by_cases e1 : z = a
  · subst e1; rw [if_pos rfl]; exact ⟨fun e => absurd e ha, fun e => absurd e hb⟩
  · rw [if_neg e1]
    by_cases e2 : z = b
    · subst e2; rw [if_pos rfl]; exact ⟨fun e => absurd e hb, fun e => absurd e ha⟩
    · rw [if_neg e2]
theorem exch_both {a b : Int} {row : List Int} (ha : a ∈ row) (hb : b ∈ row) (z : Int) : z ∈ row ↔ exch a b z ∈ row := by
  unfold exch
  by_cases e1 : z = a
  · subst e1; rw [if_pos rfl]; exact ⟨fun _ => hb, fun _ => ha⟩
  · rw [if_neg e1]
    by_cases e2 : z = b
    · subst e2; rw [if_pos rfl]; exact ⟨fun _ => ha, fun _ => hb⟩
    · rw [if_neg e2]
theorem ex_mapD {zss : List (List Int)} {a b : Int} (h : dealB zss = true) (hf : exFound zss a b = true) : exRows zss a b = mapD (exch a b) zss := by
  obtain ⟨h4, hr, hn⟩ := (deal_iff zss).1 h
  simp only [exFound, Bool.and_eq_true, decide_eq_true_eq] at hf
  obtain ⟨x, hx, ex, ax⟩ := holder_mem hf.1
  obtain ⟨y, hy, ey, byy⟩ := holder_mem hf.2
  have hst : ∀ j, j < 4 → (zss.getD j []).Pairwise (· < ·) := fun j hj => ((hand_iff _).1 (hr j hj).1).2.1
  have key : ∀ (r t : List Int), handB r = true → t.Pairwise (· < ·) → (∀ z, z ∈ t ↔ exch a b z ∈ r) → t = mapH (exch a b) r := fun r t hr ht hz =>
    strict_eq _ _ ht (mapH_strict (exch_inj a b) hr) (fun z => by rw [mem_exch]; exact hz z)
  have ina : ∀ j, j < 4 → a ∈ zss.getD j [] → j = x := fun j hj q => one_row hn (by omega) hx q ax
  have inb : ∀ j, j < 4 → b ∈ zss.getD j [] → j = y := fun j hj q => one_row hn (by omega) hy q byy
  unfold exRows
  rw [ex, ey]
  by_cases e : (x : Int) = (y : Int)
  · rw [if_pos e]
    obtain rfl : x = y := by omega
    refine rows_eq (by rw [mapD_length]) (fun j hj => ?_)
    rw [mapD_length] at hj
    rw [mapD_getD _ _ _ hj]
    refine key _ _ (hr j (by omega)).1 (hst j (by omega)) (fun z => ?_)
    by_cases ej : j = x
    · subst ej; exact exch_both ax byy z
    · exact exch_none (fun q => ej (ina j (by omega) q)) (fun q => ej (inb j (by omega) q)) z
  · rw [if_neg e]
    have hxy : x ≠ y := fun q => e (by rw [q])
    simp only [Int.toNat_natCast]
    refine rows_eq (by rw [mapD_length]; simp) (fun j hj => ?_)
    rw [mapD_length] at hj
    rw [mapD_getD _ _ _ hj, rset_getD _ _ _ _ (by simp; omega)]
    have bx : b ∉ zss.getD x [] := fun q => hxy (inb x (by omega) q)
    have ay : a ∉ zss.getD y [] := fun q => hxy (ina y (by omega) q).symm
    by_cases ejy : j = y
    · rw [if_pos ejy, ejy]
      refine key _ _ (hr y (by omega)).1 (ins_pairwise _ _ (dropF_strict (hst y (by omega))) (fun q => ay ((mem_drop _ _ _).1 q).1)) (fun z => ?_)
      rw [exch_comm]
      exact ex_row byy ay z
    · rw [if_neg ejy, rset_getD _ _ _ _ (by omega)]
      by_cases ejx : j = x
      · rw [if_pos ejx, ejx]
        refine key _ _ (hr x (by omega)).1 (ins_pairwise _ _ (dropF_strict (hst x (by omega))) (fun q => bx ((mem_drop _ _ _).1 q).1)) (fun z => ?_)
        exact ex_row ax bx z
      · rw [if_neg ejx]
        exact key _ _ (hr j (by omega)).1 (hst j (by omega)) (exch_none (fun q => ejx (ina j (by omega) q)) (fun q => ejy (inb j (by omega) q)))

/-! ### The cards of a deal -/
theorem cardsF_mem (zss : List (List Int)) (z : Int) : ∀ k : Nat, z ∈ cardsF zss k ↔ 0 ≤ z ∧ z < k ∧ 0 ≤ holderF zss z
  | 0 => by simp [cardsF]; omega
  | k + 1 => by
    rw [cardsF, List.mem_append, cardsF_mem zss z k]
    by_cases h : 0 ≤ holderF zss (k : Int)
    · rw [if_pos h]
      simp only [List.mem_singleton]
      constructor
      · rintro (q | q)
        · exact ⟨q.1, by omega, q.2.2⟩
        · subst q; exact ⟨by omega, by omega, h⟩
      · rintro ⟨q1, q2, q3⟩
        by_cases e : z = k
        · exact .inr e
        · exact .inl ⟨q1, by omega, q3⟩
    · rw [if_neg h]
      simp only [List.not_mem_nil, or_false]
      constructor
      · rintro q; exact ⟨q.1, by omega, q.2.2⟩
      · rintro ⟨q1, q2, q3⟩
        refine ⟨q1, ?_, q3⟩
        have : z ≠ k := fun e => h (e ▸ q3)
        omega
theorem cardsF_strict (zss : List (List Int)) : ∀ k : Nat, (cardsF zss k).Pairwise (· < ·)
  | 0 => List.Pairwise.nil
  | k + 1 => by
    rw [cardsF, List.pairwise_append]
    refine ⟨cardsF_strict zss k, by split <;> simp, fun x hx y hy => ?_⟩
    have := (cardsF_mem zss x k).1 hx
    split at hy
    · simp at hy; omega
    · simp at hy
theorem cards_sort {zss : List (List Int)} (h : dealB zss = true) : sortI zss.flatten = cardsF zss 52 := by
  obtain ⟨h4, hr, hn⟩ := (deal_iff zss).1 h
  refine strict_eq _ _ (sortI_strict hn) (cardsF_strict zss 52) (fun z => ?_)
  rw [mem_sortI, cardsF_mem, holder_iff]
  constructor
  · intro hz; have := deal_range h z hz; exact ⟨this.1, by omega, hz⟩
  · intro q; exact q.2.2
end

section
open Go.RowKit
set_option maxRecDepth 100000

/-- The inverse of a list of suits, as far as it is made. -/
def backTo (to : List Int) : Nat → List Int
  | 0 => [0, 0, 0, 0]
  | k + 1 => (backTo to k).set (to.getD k 0).toNat k
theorem backTo_length (to : List Int) : ∀ k, (backTo to k).length = 4
  | 0 => rfl
  | k + 1 => by rw [backTo, List.length_set, backTo_length to k]
def backOk (to : List Int) : Bool := orderB (backTo to 4) && ((List.range 4).all fun s => decide ((backTo to 4).getD (to.getD s 0).toNat 0 = (s : Int)))
theorem back_all : ∀ a b c d : Fin 4, orderB [(a.val : Int), (b.val : Int), (c.val : Int), (d.val : Int)] = true → backOk [(a.val : Int), (b.val : Int), (c.val : Int), (d.val : Int)] = true := by decide +kernel
theorem back_ok {to : List Int} (h : orderB to = true) : backOk to = true := by
  obtain ⟨h4, hr⟩ := order_range h
  match to, h4 with
  | [a, b, c, d], _ =>
    have ha := hr 0 (by omega)
    have hb := hr 1 (by omega)
    have hc := hr 2 (by omega)
    have hd := hr 3 (by omega)
    simp at ha hb hc hd
    obtain ⟨a', rfl⟩ : ∃ k : Nat, a = k := ⟨a.toNat, by omega⟩
    obtain ⟨b', rfl⟩ : ∃ k : Nat, b = k := ⟨b.toNat, by omega⟩
    obtain ⟨c', rfl⟩ : ∃ k : Nat, c = k := ⟨c.toNat, by omega⟩
    obtain ⟨d', rfl⟩ : ∃ k : Nat, d = k := ⟨d.toNat, by omega⟩
    exact back_all ⟨a', by omega⟩ ⟨b', by omega⟩ ⟨c', by omega⟩ ⟨d', by omega⟩ h
theorem back_order {to : List Int} (h : orderB to = true) : orderB (backTo to 4) = true := by
  have := back_ok h
  simp only [backOk, Bool.and_eq_true] at this
  exact this.1
theorem back_at {to : List Int} (h : orderB to = true) {s : Nat} (hs : s < 4) : (backTo to 4).getD (to.getD s 0).toNat 0 = (s : Int) := by
  have := back_ok h
  simp only [backOk, Bool.and_eq_true, List.all_eq_true, decide_eq_true_eq] at this
  exact this.2 s (by simp; omega)
theorem back_suit {to : List Int} (h : orderB to = true) (x : Int) (h0 : 0 ≤ x) (h1 : x ≤ 51) : newSuit (backTo to 4) (newSuit to x) = x := by
  obtain ⟨_, hr⟩ := order_range h
  obtain ⟨s, hs⟩ : ∃ s : Nat, x / 13 = s := ⟨(x / 13).toNat, by omega⟩
  have hs4 : s < 4 := by omega
  have ht := hr s hs4
  have hb := back_at h hs4
  have e1 : newSuit to x = 13 * to.getD s 0 + x % 13 := by unfold newSuit; rw [hs]; simp
  rw [e1]
  unfold newSuit
  have e2 : (13 * to.getD s 0 + x % 13) / 13 = to.getD s 0 := by omega
  have e3 : (13 * to.getD s 0 + x % 13) % 13 = x % 13 := by omega
  rw [e2, e3, hb]
  omega
theorem perm_back {zss : List (List Int)} {to : List Int} (hd : dealB zss = true) (ho : orderB to = true) : permV (permV zss to) (backTo to 4) = zss ∧ permE (permV zss to) (backTo to 4) = 0 := by
  have h4 := ((deal_iff zss).1 hd).1
  have e1 : permV zss to = mapD (newSuit to) zss := by simp [permV, hd, ho, perm_mapD h4]
  have hd2 := mapD_deal (newSuit_inj ho) (newSuit_onto ho) hd
  have hb := back_order ho
  rw [e1]
  constructor
  · have e2 : permV (mapD (newSuit to) zss) (backTo to 4) = mapD (newSuit (backTo to 4)) (mapD (newSuit to) zss) := by
      simp [permV, hd2, hb, perm_mapD (show (mapD (newSuit to) zss).length = 4 by rw [mapD_length]; exact h4)]
    rw [e2]
    exact mapD_back (newSuit_inj ho) (newSuit_onto ho) (newSuit_inj hb) (fun x h0 h1 => back_suit ho x h0 h1) hd
  · simp [permE, hd2, hb]
end

end Go.Proofs.Yteglffbeldlibaa.Lib1
