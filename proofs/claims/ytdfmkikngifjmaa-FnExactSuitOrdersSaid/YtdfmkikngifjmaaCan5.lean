/- Chapter 5: the lists of suits that a strain allows, and the smallest form of a deal: lists alone. -/
import Derived.Test.YtdfmkikngifjmaaRel5
import Derived.Test.YtdfmkikngifjmaaL03v
namespace Go.Proofs.Ytdfmkikngifjmaa.Lib1
open Go.RowKit
set_option maxRecDepth 100000

/-! ### The allowed lists -/
theorem inB_lim {z l u : Int} (h : inB z l u = true) : l ≤ z ∧ z ≤ u := by unfold inB at h; simpa using h
def okO (strain : Int) (to : List Int) : Bool := orderB to && (decide (strain = 4) || decide (to.getD strain.toNat 0 = strain))
def ordN (k : Nat) : List Int := [((k / 64 : Nat) : Int), ((k / 16 % 4 : Nat) : Int), ((k / 4 % 4 : Nat) : Int), ((k % 4 : Nat) : Int)]
def ordTo (strain : Int) : Nat → List (List Int)
  | 0 => []
  | k + 1 => ordTo strain k ++ if okO strain (ordN k) then [ordN k] else []
def ordS (strain : Int) : List (List Int) := ordTo strain 256
def ordV (strain : Int) : List (List Int) := if inB strain 0 4 then ordS strain else []
theorem mem_ordTo (strain : Int) (to : List Int) : ∀ n, to ∈ ordTo strain n ↔ ∃ k, k < n ∧ to = ordN k ∧ okO strain to = true
  | 0 => by simp [ordTo]
  | n + 1 => by
    rw [ordTo, List.mem_append, mem_ordTo strain to n]
    constructor
    · rintro (⟨k, h1, h2⟩ | h)
      · exact ⟨k, by omega, h2⟩
      · split at h
        · rename_i e
          obtain rfl := List.mem_singleton.1 h
          exact ⟨n, by omega, rfl, e⟩
        · simp at h
    · rintro ⟨k, h1, h2, h3⟩
      by_cases e : k = n
      · subst e
        subst h2
        refine .inr ?_
        rw [if_pos h3]; exact List.mem_singleton.2 rfl
      · exact .inl ⟨k, by omega, h2, h3⟩
theorem order_num {to : List Int} (h : orderB to = true) : ∃ k, k < 256 ∧ to = ordN k := by
  obtain ⟨h4, hr⟩ := order_range h
  match to, h4 with
  | [a, b, c, d], _ =>
    have ha := hr 0 (by omega)
    have hb := hr 1 (by omega)
    have hc := hr 2 (by omega)
    have hd := hr 3 (by omega)
    simp at ha hb hc hd
    refine ⟨64 * a.toNat + 16 * b.toNat + 4 * c.toNat + d.toNat, by omega, ?_⟩
    unfold ordN
    simp only [List.cons.injEq, and_true]
    refine ⟨?_, ?_, ?_, ?_⟩ <;> omega
theorem mem_ordS (strain : Int) (to : List Int) : to ∈ ordS strain ↔ okO strain to = true := by
  unfold ordS
  rw [mem_ordTo]
  constructor
  · rintro ⟨k, _, _, h⟩; exact h
  · intro h
    obtain ⟨k, hk, e⟩ := order_num (show orderB to = true by unfold okO at h; rw [Bool.and_eq_true] at h; exact h.1)
    exact ⟨k, hk, e, h⟩
theorem okO_order {strain : Int} {to : List Int} (h : okO strain to = true) : orderB to = true := by
  unfold okO at h; rw [Bool.and_eq_true] at h; exact h.1
theorem ordTo_len (strain : Int) : ∀ k, (ordTo strain k).length ≤ k
  | 0 => Nat.le_refl _
  | k + 1 => by have := ordTo_len strain k; rw [ordTo, List.length_append]; split <;> simp <;> omega
theorem ordTo_four (strain : Int) (k j : Nat) : ((ordTo strain k).getD j []).length ≤ 4 := by
  by_cases hj : j < (ordTo strain k).length
  · rw [getD_row hj]
    obtain ⟨_, _, e, _⟩ := (mem_ordTo strain _ k).1 (List.getElem_mem hj)
    rw [e]; simp [ordN]
  · rw [List.getD_eq_getElem?_getD, List.getElem?_eq_none (by omega)]; simp
theorem ordS_count : ∀ s : Fin 5, (ordS (s.val : Int)).length = if s.val = 4 then 24 else 6 := by decide +kernel
theorem ordS_length {strain : Int} (h : inB strain 0 4 = true) : (ordS strain).length = if strain = 4 then 24 else 6 := by
  have hr := inB_lim h
  obtain ⟨k, rfl⟩ : ∃ k : Nat, strain = k := ⟨strain.toNat, by omega⟩
  have := ordS_count ⟨k, by omega⟩
  rw [this]
  by_cases e : k = 4
  · subst e; rfl
  · rw [if_neg (by simpa using e), if_neg (by omega)]

/-! ### .. as the program completes them -/
def keepT (strain : Int) (place k : Nat) : Bool := (decide ((place : Int) = strain)) == (decide ((k : Int) = strain))
def stepO (strain : Int) (place k : Nat) (order : List Int) : Bool := keepT strain place k && !hasB (order.take place) (k : Int)
def compS (strain : Int) (place : Nat) (rec : List Int → List (List Int)) (order : List Int) : Nat → List (List Int)
  | 0 => []
  | k + 1 => compS strain place rec order k ++ if stepO strain place k order then rec (order.set place (k : Int)) else []
def compL (strain : Int) : Nat → Nat → List Int → List (List Int)
  | 0, _, order => [order]
  | d + 1, place, order => compS strain place (compL strain d (place + 1)) order 4
theorem comp_all : ∀ s : Fin 5, compL (s.val : Int) 4 0 [0, 0, 0, 0] = ordS (s.val : Int) := by decide +kernel
theorem comp_ord {strain : Int} (h : inB strain 0 4 = true) : compL strain 4 0 [0, 0, 0, 0] = ordS strain := by
  have hr := inB_lim h
  obtain ⟨k, rfl⟩ : ∃ k : Nat, strain = k := ⟨strain.toNat, by omega⟩
  exact comp_all ⟨k, by omega⟩

/-! ### They are a group -/
theorem mem_idx {l : List Int} {x : Int} (h : x ∈ l) : ∃ i, i < l.length ∧ l.getD i 0 = x := by
  obtain ⟨i, hi, rfl⟩ := List.mem_iff_getElem.1 h
  exact ⟨i, hi, getD_at _ _ hi⟩
theorem orderB_iff {to : List Int} : orderB to = true ↔ to.length = 4 ∧ ∀ v : Nat, v < 4 → ∃ i, i < 4 ∧ to.getD i 0 = (v : Int) := by
  unfold orderB
  simp only [hasB, Bool.and_eq_true, decide_eq_true_eq]
  constructor
  · rintro ⟨h4, h0, h1, h2, h3⟩
    refine ⟨h4, fun v hv => ?_⟩
    have : (v : Int) ∈ to := by rcases (by omega : v = 0 ∨ v = 1 ∨ v = 2 ∨ v = 3) with rfl | rfl | rfl | rfl <;> assumption
    obtain ⟨i, hi, e⟩ := mem_idx this
    exact ⟨i, by omega, e⟩
  · rintro ⟨h4, h⟩
    have hm : ∀ v : Nat, v < 4 → (v : Int) ∈ to := fun v hv => by
      obtain ⟨i, hi, e⟩ := h v hv
      rw [← e, getD_at _ _ (by omega)]; exact List.getElem_mem _
    exact ⟨h4, hm 0 (by omega), hm 1 (by omega), hm 2 (by omega), hm 3 (by omega)⟩
def cmpO (t u : List Int) : List Int := [t.getD (u.getD 0 0).toNat 0, t.getD (u.getD 1 0).toNat 0, t.getD (u.getD 2 0).toNat 0, t.getD (u.getD 3 0).toNat 0]
theorem cmpO_at (t u : List Int) {i : Nat} (hi : i < 4) : (cmpO t u).getD i 0 = t.getD (u.getD i 0).toNat 0 := by
  rcases (by omega : i = 0 ∨ i = 1 ∨ i = 2 ∨ i = 3) with rfl | rfl | rfl | rfl <;> rfl
theorem cmpO_order {t u : List Int} (ht : orderB t = true) (hu : orderB u = true) : orderB (cmpO t u) = true := by
  refine orderB_iff.2 ⟨rfl, fun v hv => ?_⟩
  obtain ⟨j, hj, e⟩ := (orderB_iff.1 ht).2 v hv
  obtain ⟨i, hi, e'⟩ := (orderB_iff.1 hu).2 j hj
  exact ⟨i, hi, by rw [cmpO_at _ _ hi, e']; simpa using e⟩
theorem okO_cases {strain : Int} {to : List Int} (hs : inB strain 0 4 = true) : okO strain to = true ↔ orderB to = true ∧ ∀ s : Nat, s < 4 → strain = (s : Int) → to.getD s 0 = (s : Int) := by
  have hr := inB_lim hs
  unfold okO
  simp only [Bool.and_eq_true, Bool.or_eq_true, decide_eq_true_eq]
  constructor
  · rintro ⟨h, h'⟩
    refine ⟨h, fun s hs e => ?_⟩
    subst e
    rcases h' with h' | h'
    · omega
    · simpa using h'
  · rintro ⟨h, h'⟩
    refine ⟨h, ?_⟩
    by_cases e : strain = 4
    · exact .inl e
    · obtain ⟨s, rfl⟩ : ∃ s : Nat, strain = s := ⟨strain.toNat, by omega⟩
      exact .inr (by simpa using h' s (by omega) rfl)
theorem okO_cmp {strain : Int} {t u : List Int} (hs : inB strain 0 4 = true) (ht : okO strain t = true) (hu : okO strain u = true) : okO strain (cmpO t u) = true := by
  rw [okO_cases hs] at ht hu ⊢
  refine ⟨cmpO_order ht.1 hu.1, fun s h4 e => ?_⟩
  rw [cmpO_at _ _ h4, hu.2 s h4 e]
  simpa using ht.2 s h4 e
theorem okO_back {strain : Int} {t : List Int} (hs : inB strain 0 4 = true) (ht : okO strain t = true) : okO strain (backTo t 4) = true := by
  rw [okO_cases hs] at ht ⊢
  refine ⟨back_order ht.1, fun s h4 e => ?_⟩
  have := back_at ht.1 h4
  rw [ht.2 s h4 e] at this
  simpa using this
theorem okO_same {strain : Int} (hs : inB strain 0 4 = true) : okO strain [0, 1, 2, 3] = true := by
  rw [okO_cases hs]
  refine ⟨by decide, fun s h4 _ => ?_⟩
  rcases (by omega : s = 0 ∨ s = 1 ∨ s = 2 ∨ s = 3) with rfl | rfl | rfl | rfl <;> rfl
theorem newSuit_cmp {t u : List Int} (hu : orderB u = true) {x : Int} (h0 : 0 ≤ x) (h1 : x ≤ 51) : newSuit (cmpO t u) x = newSuit t (newSuit u x) := by
  obtain ⟨s, hs⟩ : ∃ s : Nat, x / 13 = s := ⟨(x / 13).toNat, by omega⟩
  have hs4 : s < 4 := by omega
  have hb := (order_range hu).2 s hs4
  have e1 : newSuit u x = 13 * u.getD s 0 + x % 13 := by unfold newSuit; rw [hs]; simp
  have e2 : newSuit (cmpO t u) x = 13 * (cmpO t u).getD s 0 + x % 13 := by unfold newSuit; rw [hs]; simp
  rw [e2, cmpO_at _ _ hs4, e1]
  unfold newSuit
  have e3 : (13 * u.getD s 0 + x % 13) / 13 = u.getD s 0 := by omega
  have e4 : (13 * u.getD s 0 + x % 13) % 13 = x % 13 := by omega
  rw [e3, e4]
theorem newSuit_same {x : Int} (h0 : 0 ≤ x) (h1 : x ≤ 51) : newSuit [0, 1, 2, 3] x = x := by
  obtain ⟨s, hs⟩ : ∃ s : Nat, x / 13 = s := ⟨(x / 13).toNat, by omega⟩
  have hs4 : s < 4 := by omega
  unfold newSuit
  rw [hs]
  have : ([0, 1, 2, 3] : List Int).getD (s : Int).toNat 0 = (s : Int) := by
    rcases (by omega : s = 0 ∨ s = 1 ∨ s = 2 ∨ s = 3) with rfl | rfl | rfl | rfl <;> rfl
  rw [this]; omega

/-! ### Deals in other suits -/
def permD (to : List Int) (zss : List (List Int)) : List (List Int) := mapD (newSuit to) zss
theorem permD_deal {to : List Int} {zss : List (List Int)} (ho : orderB to = true) (hd : dealB zss = true) : dealB (permD to zss) = true := mapD_deal (newSuit_inj ho) (newSuit_onto ho) hd
theorem permD_length (to : List Int) (zss : List (List Int)) : (permD to zss).length = zss.length := mapD_length _ _
theorem permD_row (to : List Int) (zss : List (List Int)) (j : Nat) : ((permD to zss).getD j []).length = (zss.getD j []).length := by
  by_cases hj : j < zss.length
  · unfold permD; rw [mapD_getD _ _ _ hj, mapH_length]
  · rw [List.getD_eq_getElem?_getD, List.getD_eq_getElem?_getD, List.getElem?_eq_none (by rw [permD_length]; omega), List.getElem?_eq_none (by omega)]
theorem permV_is {to : List Int} {zss : List (List Int)} (ho : orderB to = true) (hd : dealB zss = true) : permV zss to = permD to zss := by
  simp [permV, permD, hd, ho, perm_mapD ((deal_iff zss).1 hd).1]
theorem permE_is {to : List Int} {zss : List (List Int)} (ho : orderB to = true) (hd : dealB zss = true) : permE zss to = 0 := by simp [permE, hd, ho]
theorem deal_hand {zss : List (List Int)} (hd : dealB zss = true) {j : Nat} (hj : j < 4) : handB (zss.getD j []) = true := (((deal_iff zss).1 hd).2.1 j hj).1
theorem permD_cmp {t u : List Int} {zss : List (List Int)} (ht : orderB t = true) (hu : orderB u = true) (hd : dealB zss = true) : permD t (permD u zss) = permD (cmpO t u) zss := by
  have h4 := ((deal_iff zss).1 hd).1
  refine rows_eq (by simp only [permD_length]) fun j hj => ?_
  rw [permD_length] at hj
  have hh := deal_hand hd (by omega : j < 4)
  unfold permD
  rw [mapD_getD _ _ _ (by rw [mapD_length]; exact hj), mapD_getD _ _ _ hj, mapD_getD _ _ _ hj]
  refine strict_eq _ _ (mapH_strict (newSuit_inj ht) (mapH_hand (newSuit_inj hu) (newSuit_onto hu) hh)) (mapH_strict (newSuit_inj (cmpO_order ht hu)) hh) fun z => ?_
  have hr := ((hand_iff _).1 hh).2.2
  simp only [mem_mapH]
  constructor
  · rintro ⟨y, ⟨x, hx, rfl⟩, rfl⟩
    exact ⟨x, hx, newSuit_cmp hu (hr x hx).1 (hr x hx).2⟩
  · rintro ⟨x, hx, rfl⟩
    exact ⟨_, ⟨x, hx, rfl⟩, (newSuit_cmp hu (hr x hx).1 (hr x hx).2).symm⟩
theorem permD_same {zss : List (List Int)} (hd : dealB zss = true) : permD [0, 1, 2, 3] zss = zss := by
  have h4 := ((deal_iff zss).1 hd).1
  refine rows_eq (permD_length _ _) fun j hj => ?_
  have hh := deal_hand hd (by omega : j < 4)
  unfold permD
  rw [mapD_getD _ _ _ hj]
  have hr := ((hand_iff _).1 hh).2
  refine strict_eq _ _ (mapH_strict (newSuit_inj (by decide)) hh) hr.1 fun z => ?_
  rw [mem_mapH]
  constructor
  · rintro ⟨y, hy, rfl⟩; rw [newSuit_same (hr.2 y hy).1 (hr.2 y hy).2]; exact hy
  · intro hz; exact ⟨z, hz, newSuit_same (hr.2 z hz).1 (hr.2 z hz).2⟩
theorem permD_back {u : List Int} {zss : List (List Int)} (hu : orderB u = true) (hd : dealB zss = true) : permD (backTo u 4) (permD u zss) = zss :=
  mapD_back (newSuit_inj hu) (newSuit_onto hu) (newSuit_inj (back_order hu)) (fun x h0 h1 => back_suit hu x h0 h1) hd

/-! ### .. and their relative forms -/
theorem permD_holder {to : List Int} {zss : List (List Int)} (ho : orderB to = true) (hd : dealB zss = true) {x : Int} (h0 : 0 ≤ x) (h1 : x ≤ 51) : holderF (permD to zss) (newSuit to x) = holderF zss x := by
  obtain ⟨h4, _, hn⟩ := (deal_iff zss).1 hd
  obtain ⟨g4, _, gn⟩ := (deal_iff _).1 (permD_deal ho hd)
  by_cases hp : 0 ≤ holderF zss x
  · obtain ⟨j, hj, e, hm⟩ := holder_mem hp
    rw [e]
    refine holder_at gn (by omega) ?_
    unfold permD
    rw [mapD_getD _ _ _ hj, mem_mapH]
    exact ⟨x, hm, rfl⟩
  · rw [holder_not hp]
    refine holder_not fun hq => hp ?_
    obtain ⟨j, hj, _, hm⟩ := holder_mem hq
    rw [permD_length] at hj
    unfold permD at hm
    rw [mapD_getD _ _ _ hj, mem_mapH] at hm
    obtain ⟨y, hy, e⟩ := hm
    have hr := ((hand_iff _).1 (deal_hand hd (by omega : j < 4))).2.2 y hy
    obtain rfl := newSuit_inj ho y x hr.1 hr.2 h0 h1 e
    exact holder_iff.2 (by rw [List.mem_flatten]; exact ⟨_, by rw [getD_row hj]; exact List.getElem_mem _, hy⟩)
theorem ascF_shift (h h' : Int → Int) (s : Int) : ∀ (j : Nat) (c : Int), (∀ x, c ≤ x → x < c + j → h' (x + s) = h x) → (ascF h' j (c + s)).length = (ascF h j c).length
  | 0, _, _ => rfl
  | j + 1, c, hh => by
    have ih := ascF_shift h h' s j (c + 1) (fun x h1 h2 => hh x (by omega) (by omega))
    have e := hh c (by omega) (by omega)
    rw [show c + 1 + s = c + s + 1 by omega] at ih
    simp only [ascF, e]
    split <;> simp [ih]
theorem relF_perm {to : List Int} {zss : List (List Int)} (ho : orderB to = true) (hd : dealB zss = true) {x : Int} (h0 : 0 ≤ x) (h1 : x ≤ 51) : relF (holderF (permD to zss)) (newSuit to x) = newSuit to (relF (holderF zss) x) := by
  obtain ⟨s, hs⟩ : ∃ s : Nat, x / 13 = s := ⟨(x / 13).toNat, by omega⟩
  have hs4 : s < 4 := by omega
  have hb := (order_range ho).2 s hs4
  have e1 : ∀ y : Int, y / 13 = (s : Int) → newSuit to y = 13 * to.getD s 0 + y % 13 := fun y hy => by unfold newSuit; rw [hy]; simp
  have hrs := relF_suit (holderF zss) h0 h1
  rw [e1 (relF (holderF zss) x) (by omega), e1 x hs]
  generalize to.getD s 0 = t at hb e1
  unfold relF
  have e2 : (13 * t + x % 13) / 13 = t := by omega
  have e3 : (13 * t + x % 13) % 13 = x % 13 := by omega
  rw [e2, e3]
  have e4 := ascF_shift (holderF zss) (holderF (permD to zss)) (13 * t - 13 * (s : Int)) (12 - x % 13).toNat (x + 1) (fun y hy1 hy2 => by
    rw [← permD_holder ho hd (x := y) (by omega) (by omega), e1 y (by omega)]
    congr 1; omega)
  rw [show x + 1 + (13 * t - 13 * (s : Int)) = 13 * t + x % 13 + 1 by omega] at e4
  rw [e4]
  have hl := ascF_len (holderF zss) (12 - x % 13).toNat (x + 1)
  omega
theorem rel_perm {to : List Int} {zss : List (List Int)} (ho : orderB to = true) (hd : dealB zss = true) : relRows (permD to zss) = permD to (relRows zss) := by
  have h4 := ((deal_iff zss).1 hd).1
  have hd' := permD_deal ho hd
  have r1 := rel_deal hd'
  have r2 := rel_deal hd
  have r3 := permD_deal ho r2
  have l1 := ((deal_iff _).1 r1).1
  have l3 := ((deal_iff _).1 r3).1
  refine rows_eq (by omega) fun j hj => ?_
  have hj4 : j < 4 := by omega
  refine strict_eq _ _ ((hand_iff _).1 (deal_hand r1 hj4)).2.1 ((hand_iff _).1 (deal_hand r3 hj4)).2.1 fun z => ?_
  have hr := ((hand_iff _).1 (deal_hand hd hj4)).2.2
  rw [relRows_getD]
  unfold permD
  rw [mapD_getD _ _ _ (show j < zss.length by omega), mapD_getD _ _ _ (show j < (relRows zss).length by rw [show (relRows zss).length = zss.length by simp [relRows]]; omega), mem_mapH, relRows_getD, List.mem_map]
  constructor
  · rintro ⟨y, hy, rfl⟩
    obtain ⟨x, hx, rfl⟩ := (mem_mapH _ _ _).1 hy
    exact ⟨_, List.mem_map.2 ⟨x, hx, rfl⟩, (relF_perm ho hd (hr x hx).1 (hr x hx).2).symm⟩
  · rintro ⟨y, hy, rfl⟩
    obtain ⟨x, hx, rfl⟩ := List.mem_map.1 hy
    exact ⟨_, (mem_mapH _ _ _).2 ⟨x, hx, rfl⟩, relF_perm ho hd (hr x hx).1 (hr x hx).2⟩

/-! ### The order of deals -/
def lexB : List Int → List Int → Bool
  | _, [] => false
  | [], _ :: _ => true
  | x :: a, y :: b => if x = y then lexB a b else decide (x < y)
theorem lex_irrefl : ∀ l, lexB l l = false
  | [] => rfl
  | a :: l => by rw [lexB, if_pos rfl]; exact lex_irrefl l
theorem lex_trans : ∀ {a b c : List Int}, lexB a b = true → lexB b c = true → lexB a c = true
  | _, b, [], _, h => by cases b <;> simp [lexB] at h
  | [], _, _ :: _, _, _ => rfl
  | _ :: _, [], _ :: _, h, _ => by simp [lexB] at h
  | x :: a, y :: b, z :: c, h, k => by
    rw [lexB] at h k ⊢
    split at h
    · rename_i e
      subst e
      split at k
      · rename_i e
        subst e
        rw [if_pos rfl]; exact lex_trans h k
      · rename_i e
        rw [if_neg e]; exact k
    · rename_i e
      split at k
      · rename_i e'
        subst e'
        rw [if_neg e]; exact h
      · rename_i e'
        simp at h k
        rw [if_neg (by omega)]
        simp; omega
theorem lex_tri : ∀ {a b : List Int}, lexB a b = false → lexB b a = false → a = b
  | [], [], _, _ => rfl
  | [], _ :: _, h, _ => by simp [lexB] at h
  | _ :: _, [], _, h => by simp [lexB] at h
  | x :: a, y :: b, h, k => by
    rw [lexB] at h k
    by_cases e : x = y
    · subst e
      rw [if_pos rfl] at h k
      rw [lex_tri h k]
    · rw [if_neg e] at h
      rw [if_neg (fun q => e q.symm)] at k
      simp at h k
      omega
theorem lex_neg {a b c : List Int} (h : lexB a b = false) (k : lexB b c = false) : lexB a c = false := by
  cases q : lexB a c with
  | false => rfl
  | true =>
    cases r : lexB c b with
    | true => rw [lex_trans q r] at h; cases h
    | false =>
      obtain rfl := lex_tri k r
      rw [q] at h; cases h
theorem lex_prefix : ∀ (p x y : List Int), lexB (p ++ x) (p ++ y) = lexB x y
  | [], _, _ => rfl
  | a :: p, x, y => by rw [List.cons_append, List.cons_append, lexB, if_pos rfl]; exact lex_prefix p x y
def lessB (a b : List (List Int)) : Bool := lexB a.flatten b.flatten
def bestL (f : List Int → List (List Int)) (b : List (List Int)) (os : List (List Int)) : List (List Int) := os.foldl (fun b to => if lessB (f to) b then f to else b) b
theorem bestL_snoc (f : List Int → List (List Int)) (b : List (List Int)) (os : List (List Int)) (to : List Int) : bestL f b (os ++ [to]) = if lessB (f to) (bestL f b os) then f to else bestL f b os := by unfold bestL; rw [List.foldl_append]; rfl
theorem bestL_mem (f : List Int → List (List Int)) : ∀ (os : List (List Int)) (b : List (List Int)), bestL f b os = b ∨ ∃ to ∈ os, bestL f b os = f to
  | [], _ => .inl rfl
  | t :: os, b => by
    have e : bestL f b (t :: os) = bestL f (if lessB (f t) b then f t else b) os := rfl
    rw [e]
    rcases bestL_mem f os (if lessB (f t) b then f t else b) with h | ⟨to, h1, h2⟩
    · rw [h]
      split
      · exact .inr ⟨t, List.mem_cons_self, rfl⟩
      · exact .inl rfl
    · exact .inr ⟨to, List.mem_cons_of_mem _ h1, h2⟩
theorem bestL_least (f : List Int → List (List Int)) : ∀ (os : List (List Int)) (b : List (List Int)), lessB b (bestL f b os) = false ∧ ∀ to ∈ os, lessB (f to) (bestL f b os) = false
  | [], b => ⟨lex_irrefl _, fun _ h => by simp at h⟩
  | t :: os, b => by
    have e : bestL f b (t :: os) = bestL f (if lessB (f t) b then f t else b) os := rfl
    rw [e]
    obtain ⟨h1, h2⟩ := bestL_least f os (if lessB (f t) b then f t else b)
    generalize bestL f (if lessB (f t) b then f t else b) os = m at h1 h2
    split at h1
    · rename_i q
      have hb : lessB b m = false := by
        cases r : lessB b m with
        | false => rfl
        | true => rw [show lessB (f t) m = true from lex_trans q r] at h1; cases h1
      refine ⟨hb, fun to hto => ?_⟩
      rcases List.mem_cons.1 hto with rfl | hto
      · exact h1
      · exact h2 to hto
    · rename_i q
      refine ⟨h1, fun to hto => ?_⟩
      rcases List.mem_cons.1 hto with rfl | hto
      · exact lex_neg (Bool.not_eq_true _ ▸ q) h1
      · exact h2 to hto

/-! ### The smallest form -/
def canL (zss : List (List Int)) (strain : Int) : List (List Int) := bestL (fun to => permD to (relRows zss)) (relRows zss) (ordS strain)
def canV (zss : List (List Int)) (strain : Int) : List (List Int) := if dealB zss && inB strain 0 4 then canL zss strain else []
def canE (zss : List (List Int)) (strain : Int) : Int := if dealB zss then (if inB strain 0 4 then 0 else 2) else 1
def sameV (zss yss : List (List Int)) (strain : Int) : Bool := (dealB zss && (dealB yss && inB strain 0 4)) && decide (canL zss strain = canL yss strain)
theorem best_mem {zss : List (List Int)} {strain : Int} (hd : dealB zss = true) (hs : inB strain 0 4 = true) (os : List (List Int)) (hos : ∀ to ∈ os, okO strain to = true) : ∃ to, okO strain to = true ∧ bestL (fun to => permD to (relRows zss)) (relRows zss) os = permD to (relRows zss) := by
  rcases bestL_mem (fun to => permD to (relRows zss)) os (relRows zss) with h | ⟨to, h1, h2⟩
  · exact ⟨[0, 1, 2, 3], okO_same hs, by rw [h, permD_same (rel_deal hd)]⟩
  · exact ⟨to, hos to h1, h2⟩
theorem can_mem {zss : List (List Int)} {strain : Int} (hd : dealB zss = true) (hs : inB strain 0 4 = true) : ∃ to, okO strain to = true ∧ canL zss strain = permD to (relRows zss) :=
  best_mem hd hs _ fun to h => (mem_ordS strain to).1 h
theorem can_least {zss : List (List Int)} {strain : Int} {to : List Int} (ho : okO strain to = true) : lessB (permD to (relRows zss)) (canL zss strain) = false :=
  (bestL_least (fun to => permD to (relRows zss)) (ordS strain) (relRows zss)).2 to ((mem_ordS strain to).2 ho)
theorem rows_flat {a b : List (List Int)} (ha : a.length = 4) (hb : b.length = 4) (hl : ∀ j, j < 4 → (a.getD j []).length = (b.getD j []).length) (h : a.flatten = b.flatten) : a = b := by
  obtain ⟨a0, a1, a2, a3, rfl⟩ := four_rows ha
  obtain ⟨b0, b1, b2, b3, rfl⟩ := four_rows hb
  have l0 : a0.length = b0.length := hl 0 (by omega)
  have l1 : a1.length = b1.length := hl 1 (by omega)
  have l2 : a2.length = b2.length := hl 2 (by omega)
  simp only [List.flatten_cons, List.flatten_nil, List.append_nil] at h
  obtain ⟨e0, h1⟩ := List.append_inj h l0
  obtain ⟨e1, h2⟩ := List.append_inj h1 l1
  obtain ⟨e2, e3⟩ := List.append_inj h2 l2
  rw [e0, e1, e2, e3]
theorem relRows_length (zss : List (List Int)) : (relRows zss).length = zss.length := by simp [relRows]
theorem can_deal {zss : List (List Int)} {strain : Int} (hd : dealB zss = true) (hs : inB strain 0 4 = true) : dealB (canL zss strain) = true := by
  obtain ⟨to, ho, e⟩ := can_mem hd hs
  rw [e]; exact permD_deal (okO_order ho) (rel_deal hd)
theorem can_row {zss : List (List Int)} {strain : Int} (hd : dealB zss = true) (hs : inB strain 0 4 = true) (j : Nat) : ((canL zss strain).getD j []).length = (zss.getD j []).length := by
  obtain ⟨to, ho, e⟩ := can_mem hd hs
  rw [e, permD_row, relRows_getD, List.length_map]
/-- Deals whose relative forms differ by an allowed list have one smallest form. -/
theorem can_same {zss yss : List (List Int)} {strain : Int} {u : List Int} (hd : dealB zss = true) (hd' : dealB yss = true) (hs : inB strain 0 4 = true) (hu : okO strain u = true) (e : relRows yss = permD u (relRows zss)) : canL yss strain = canL zss strain := by
  have r := rel_deal hd
  have ou := okO_order hu
  obtain ⟨t, ht, e1⟩ := can_mem hd hs
  obtain ⟨t', ht', e2⟩ := can_mem hd' hs
  have h1 : lessB (canL yss strain) (canL zss strain) = false := by
    have := can_least (zss := zss) (okO_cmp hs ht' hu)
    rw [← permD_cmp (okO_order ht') ou r, ← e, ← e2] at this
    exact this
  have h2 : lessB (canL zss strain) (canL yss strain) = false := by
    have := can_least (zss := yss) (okO_cmp hs ht (okO_back hs hu))
    rw [← permD_cmp (okO_order ht) (back_order ou) (rel_deal hd'), e, permD_back ou r, ← e1] at this
    exact this
  have hf := lex_tri h1 h2
  have l1 := ((deal_iff _).1 (can_deal hd hs)).1
  have l2 := ((deal_iff _).1 (can_deal hd' hs)).1
  refine rows_flat l2 l1 (fun j hj => ?_) hf
  rw [e1, e2, e]
  simp only [permD_row]
theorem can_perm {zss : List (List Int)} {strain : Int} {u : List Int} (hd : dealB zss = true) (hs : inB strain 0 4 = true) (hu : okO strain u = true) : canL (permD u zss) strain = canL zss strain :=
  can_same hd (permD_deal (okO_order hu) hd) hs hu (rel_perm (okO_order hu) hd)
theorem can_can {zss : List (List Int)} {strain : Int} (hd : dealB zss = true) (hs : inB strain 0 4 = true) : canL (canL zss strain) strain = canL zss strain := by
  obtain ⟨t, ht, e⟩ := can_mem hd hs
  refine can_same hd (can_deal hd hs) hs ht ?_
  rw [e, rel_perm (okO_order ht) (rel_deal hd), rel_rel hd]
theorem same_flat {zss yss : List (List Int)} {strain : Int} (hd : dealB zss = true) (hd' : dealB yss = true) (hs : inB strain 0 4 = true) : canL zss strain = canL yss strain ↔ (canL zss strain).flatten = (canL yss strain).flatten := by
  refine ⟨fun h => by rw [h], fun h => ?_⟩
  obtain ⟨g4, gr, _⟩ := (deal_iff _).1 (can_deal hd hs)
  obtain ⟨k4, kr, _⟩ := (deal_iff _).1 (can_deal hd' hs)
  have e : ((canL zss strain).getD 0 []).length = ((canL yss strain).getD 0 []).length := by
    have := congrArg List.length h
    generalize canL zss strain = a at g4 gr this
    generalize canL yss strain = b at k4 kr this
    obtain ⟨a0, a1, a2, a3, rfl⟩ := four_rows g4
    obtain ⟨b0, b1, b2, b3, rfl⟩ := four_rows k4
    have a1 := (gr 1 (by omega)).2
    have a2 := (gr 2 (by omega)).2
    have a3 := (gr 3 (by omega)).2
    have b1 := (kr 1 (by omega)).2
    have b2 := (kr 2 (by omega)).2
    have b3 := (kr 3 (by omega)).2
    simp at this a1 a2 a3 b1 b2 b3 ⊢
    omega
  exact rows_flat g4 k4 (fun j hj => by rw [(gr j hj).2, (kr j hj).2, e]) h

end Go.Proofs.Ytdfmkikngifjmaa.Lib1
