/- Chapter 3, lists alone: cards replaced one for one in all hands; suits exchanged, two cards exchanged. -/
import Derived.Test.YtdfmkikngifjmaaL03s
import Derived.Test.YtdfmkikngifjmaaS03p
import Derived.Test.YtdfmkikngifjmaaTwo
namespace Go.Proofs.Ytdfmkikngifjmaa.Lib1
open Go.RowKit
set_option maxRecDepth 100000

/-- Each card of a hand replaced, and the hand sorted again. -/
def mapH (f : Int → Int) (row : List Int) : List Int := sortI (row.map f)
def mapD (f : Int → Int) (zss : List (List Int)) : List (List Int) := zss.map (mapH f)
/-- Different cards have different replacements. -/
def Inj (f : Int → Int) : Prop := ∀ x y, 0 ≤ x → x ≤ 51 → 0 ≤ y → y ≤ 51 → f x = f y → x = y
def Onto (f : Int → Int) : Prop := ∀ x, 0 ≤ x → x ≤ 51 → 0 ≤ f x ∧ f x ≤ 51
theorem mapH_length (f : Int → Int) (row : List Int) : (mapH f row).length = row.length := by simp [mapH, sortI_length]
theorem mem_mapH (f : Int → Int) (row : List Int) (z : Int) : z ∈ mapH f row ↔ ∃ y ∈ row, f y = z := by rw [mapH, mem_sortI, List.mem_map]
theorem mapD_length (f : Int → Int) (zss : List (List Int)) : (mapD f zss).length = zss.length := by simp [mapD]
theorem mapD_getD (f : Int → Int) (zss : List (List Int)) (j : Nat) (h : j < zss.length) : (mapD f zss).getD j [] = mapH f (zss.getD j []) := by
  rw [getD_row (by rw [mapD_length]; exact h), getD_row h]; simp [mapD]
theorem map_nodup {f : Int → Int} (hf : Inj f) : ∀ l : List Int, l.Nodup → (∀ z ∈ l, 0 ≤ z ∧ z ≤ 51) → (l.map f).Nodup
  | [], _, _ => by simp
  | a :: l, h, hr => by
    rw [List.nodup_cons] at h
    rw [List.map_cons, List.nodup_cons]
    refine ⟨fun hm => ?_, map_nodup hf l h.2 (fun z hz => hr z (by simp [hz]))⟩
    obtain ⟨y, hy, e⟩ := List.mem_map.1 hm
    have h1 := hr a (by simp)
    have h2 := hr y (by simp [hy])
    have := hf y a h2.1 h2.2 h1.1 h1.2 e
    exact h.1 (this ▸ hy)
theorem mapH_strict {f : Int → Int} (hf : Inj f) {row : List Int} (h : handB row = true) : (mapH f row).Pairwise (· < ·) := by
  obtain ⟨_, h2, h3⟩ := (hand_iff row).1 h
  exact sortI_strict (map_nodup hf row (strict_nodup h2) h3)
theorem mapH_hand {f : Int → Int} (hf : Inj f) (ho : Onto f) {row : List Int} (h : handB row = true) : handB (mapH f row) = true := by
  obtain ⟨h1, h2, h3⟩ := (hand_iff row).1 h
  rw [hand_iff]
  refine ⟨by rw [mapH_length]; exact h1, mapH_strict hf h, fun z hz => ?_⟩
  obtain ⟨y, hy, rfl⟩ := (mem_mapH f row z).1 hz
  exact ho y (h3 y hy).1 (h3 y hy).2
theorem flatten_perm (f : Int → Int) : ∀ zss : List (List Int), (mapD f zss).flatten.Perm (zss.flatten.map f)
  | [] => List.Perm.refl _
  | r :: zss => by
    rw [mapD, List.map_cons, List.flatten_cons, List.flatten_cons, List.map_append]
    exact (sortI_perm (r.map f)).append (flatten_perm f zss)
theorem deal_range {zss : List (List Int)} (h : dealB zss = true) : ∀ z ∈ zss.flatten, 0 ≤ z ∧ z ≤ 51 := by
  obtain ⟨h4, hr, _⟩ := (deal_iff zss).1 h
  intro z hz
  obtain ⟨r, hrm, hzr⟩ := List.mem_flatten.1 hz
  obtain ⟨j, hj, e⟩ := List.getElem_of_mem hrm
  have h1 := (hr j (by omega)).1
  rw [getD_row hj, e] at h1
  exact ((hand_iff r).1 h1).2.2 z hzr
theorem mapD_deal {f : Int → Int} (hf : Inj f) (ho : Onto f) {zss : List (List Int)} (h : dealB zss = true) : dealB (mapD f zss) = true := by
  have hrg := deal_range h
  obtain ⟨h4, hr, hn⟩ := (deal_iff zss).1 h
  refine deal_yes (by rw [mapD_length]; exact h4) (fun t ht => ?_) ((flatten_perm f zss).nodup_iff.2 (map_nodup hf _ hn hrg))
  rw [mapD_getD f zss t (by omega), mapD_getD f zss 0 (by omega), mapH_length, mapH_length]
  exact ⟨mapH_hand hf ho (hr t ht).1, (hr t ht).2⟩
theorem mapH_back {f g : Int → Int} (hf : Inj f) (ho : Onto f) (hg : Inj g) (hb : ∀ x, 0 ≤ x → x ≤ 51 → g (f x) = x) {row : List Int} (h : handB row = true) : mapH g (mapH f row) = row := by
  obtain ⟨_, h2, h3⟩ := (hand_iff row).1 h
  refine strict_eq _ _ (mapH_strict hg (mapH_hand hf ho h)) h2 (fun z => ?_)
  rw [mem_mapH]
  constructor
  · rintro ⟨y, hy, rfl⟩
    obtain ⟨x, hx, rfl⟩ := (mem_mapH f row y).1 hy
    rw [hb x (h3 x hx).1 (h3 x hx).2]; exact hx
  · intro hz
    exact ⟨f z, (mem_mapH f row _).2 ⟨z, hz, rfl⟩, hb z (h3 z hz).1 (h3 z hz).2⟩
theorem rows_eq {a b : List (List Int)} (hl : a.length = b.length) (h : ∀ j, j < b.length → a.getD j [] = b.getD j []) : a = b := by
  apply List.ext_getElem hl
  intro j h1 h2
  have := h j h2
  rwa [getD_row h1, getD_row h2] at this
theorem mapD_back {f g : Int → Int} (hf : Inj f) (ho : Onto f) (hg : Inj g) (hb : ∀ x, 0 ≤ x → x ≤ 51 → g (f x) = x) {zss : List (List Int)} (h : dealB zss = true) : mapD g (mapD f zss) = zss := by
  obtain ⟨h4, hr, _⟩ := (deal_iff zss).1 h
  refine rows_eq (by simp [mapD_length]) (fun j hj => ?_)
  rw [mapD_getD g _ j (by rw [mapD_length]; exact hj), mapD_getD f zss j hj]
  exact mapH_back hf ho hg hb (hr j (by omega)).1

/-! ### Suits -/
theorem permTo_perm (row to : List Int) : ∀ i, i ≤ row.length → (permTo row to i).Perm ((row.take i).map (newSuit to))
  | 0, _ => by simp [permTo]
  | i + 1, h => by
    rw [permTo, take_snoc row i (by omega), List.map_append]
    refine (ins_perm _ _).trans ?_
    refine ((permTo_perm row to i (by omega)).cons _).trans ?_
    exact (List.perm_append_singleton _ _).symm
theorem permTo_le (row to : List Int) : ∀ i, (permTo row to i).Pairwise (· ≤ ·)
  | 0 => List.Pairwise.nil
  | i + 1 => ins_le _ _ (permTo_le row to i)
theorem perm_sort (row to : List Int) : permF row to = mapH (newSuit to) row := by
  refine rising_eq (permTo_le row to _) (sortI_le _) ?_
  have h := permTo_perm row to row.length (Nat.le_refl _)
  rw [List.take_length] at h
  exact h.trans (sortI_perm _).symm
theorem perm_mapD {zss : List (List Int)} {to : List Int} (h : zss.length = 4) : permRows zss to 4 = mapD (newSuit to) zss := by
  obtain ⟨a, b, c, d, rfl⟩ := four_rows h
  show [permF a to, permF b to, permF c to, permF d to] = [mapH _ a, mapH _ b, mapH _ c, mapH _ d]
  rw [perm_sort, perm_sort, perm_sort, perm_sort]
theorem order_inj {to : List Int} (h : orderB to = true) : ∀ i j, i < 4 → j < 4 → to.getD i 0 = to.getD j 0 → i = j := by
  simp only [orderB, hasB, Bool.and_eq_true, decide_eq_true_eq] at h
  obtain ⟨h4, m0, m1, m2, m3⟩ := h
  match to, h4 with
  | [a, b, c, d], _ =>
    simp only [List.mem_cons, List.not_mem_nil, or_false] at m0 m1 m2 m3
    intro i j hi hj
    have hq : i = 0 ∨ i = 1 ∨ i = 2 ∨ i = 3 := by omega
    have hp : j = 0 ∨ j = 1 ∨ j = 2 ∨ j = 3 := by omega
    rcases hq with rfl | rfl | rfl | rfl <;> rcases hp with rfl | rfl | rfl | rfl <;> simp <;> omega
theorem newSuit_onto {to : List Int} (h : orderB to = true) : Onto (newSuit to) := by
  obtain ⟨_, hr⟩ := order_range h
  intro x h0 h1
  have := hr (x / 13).toNat (by omega)
  unfold newSuit
  omega
theorem newSuit_inj {to : List Int} (h : orderB to = true) : Inj (newSuit to) := by
  obtain ⟨_, hr⟩ := order_range h
  intro x y x0 x1 y0 y1 e
  have hx := hr (x / 13).toNat (by omega)
  have hy := hr (y / 13).toNat (by omega)
  have hi := order_inj h (x / 13).toNat (y / 13).toNat (by omega) (by omega)
  unfold newSuit at e
  have := hi (by omega)
  omega

/-! ### Two cards -/
def exch (a b z : Int) : Int := if z = a then b else if z = b then a else z
theorem exch_twice (a b z : Int) : exch a b (exch a b z) = z := by unfold exch; repeat' split
                                                                   all_goals omega
theorem exch_inj (a b : Int) : Inj (exch a b) := fun x y _ _ _ _ e => by rw [← exch_twice a b x, e, exch_twice]
theorem exch_onto {a b : Int} (ha : 0 ≤ a ∧ a ≤ 51) (hb : 0 ≤ b ∧ b ≤ 51) : Onto (exch a b) := fun x h0 h1 => by
  unfold exch
  split
  · exact hb
  · split
    · exact ha
    · exact ⟨h0, h1⟩
def exFound (zss : List (List Int)) (a b : Int) : Bool := decide (0 ≤ holderF zss a) && decide (0 ≤ holderF zss b)
/-- The two hands anew. -/
def exRows (zss : List (List Int)) (a b : Int) : List (List Int) :=
  if holderF zss a = holderF zss b then zss else
    (zss.set (holderF zss a).toNat (ins b (dropF a (zss.getD (holderF zss a).toNat [])))).set (holderF zss b).toNat (ins a (dropF b (zss.getD (holderF zss b).toNat [])))
def exV (zss : List (List Int)) (a b : Int) : List (List Int) := if dealB zss && exFound zss a b then exRows zss a b else []
def exE (zss : List (List Int)) (a b : Int) : Int := if dealB zss then (if exFound zss a b then 0 else 4) else 1

end Go.Proofs.Ytdfmkikngifjmaa.Lib1
