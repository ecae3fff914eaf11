/- Chapter 5, lists alone: holders by suits, relative ranks, groups. No function of the program. -/
import Derived.Test.YtdfmkikngifjmaaL03x
namespace Go.Proofs.Ytdfmkikngifjmaa.Lib1
open Go.RowKit
set_option maxRecDepth 100000

/-! ### Cards in play, from a card on -/
def ascF (h : Int → Int) : Nat → Int → List Int
  | 0, _ => []
  | j + 1, c => (if 0 ≤ h c then [c] else []) ++ ascF h j (c + 1)
theorem ascF_add (h : Int → Int) : ∀ (a b : Nat) (c : Int), ascF h (a + b) c = ascF h a c ++ ascF h b (c + a)
  | 0, b, c => by simp [ascF]
  | a + 1, b, c => by
    rw [show a + 1 + b = (a + b) + 1 by omega, ascF, ascF_add h a b (c + 1), ascF, List.append_assoc, show c + 1 + (a : Int) = c + ((a + 1 : Nat) : Int) by omega]
theorem ascF_one (h : Int → Int) (c : Int) : ascF h 1 c = if 0 ≤ h c then [c] else [] := by simp [ascF]
theorem ascF_snoc (h : Int → Int) (j : Nat) (c : Int) : ascF h (j + 1) c = ascF h j c ++ if 0 ≤ h (c + j) then [c + (j : Int)] else [] := by rw [ascF_add, ascF_one]
theorem mem_ascF (h : Int → Int) (x : Int) : ∀ (j : Nat) (c : Int), x ∈ ascF h j c ↔ c ≤ x ∧ x < c + j ∧ 0 ≤ h x
  | 0, c => by simp [ascF]; omega
  | j + 1, c => by
    rw [ascF, List.mem_append, mem_ascF h x j (c + 1)]
    by_cases hc : 0 ≤ h c
    · rw [if_pos hc, List.mem_singleton]
      constructor
      · rintro (rfl | ⟨h1, h2, h3⟩)
        · exact ⟨by omega, by omega, hc⟩
        · exact ⟨by omega, by omega, h3⟩
      · rintro ⟨h1, h2, h3⟩
        by_cases e : x = c
        · exact .inl e
        · exact .inr ⟨by omega, by omega, h3⟩
    · rw [if_neg hc]
      constructor
      · rintro (h1 | ⟨h1, h2, h3⟩)
        · simp at h1
        · exact ⟨by omega, by omega, h3⟩
      · rintro ⟨h1, h2, h3⟩
        by_cases e : x = c
        · subst e; exact absurd h3 hc
        · exact .inr ⟨by omega, by omega, h3⟩
theorem ascF_strict (h : Int → Int) : ∀ (j : Nat) (c : Int), (ascF h j c).Pairwise (· < ·)
  | 0, c => by simp [ascF]
  | j + 1, c => by
    rw [ascF, List.pairwise_append]
    refine ⟨by split <;> simp, ascF_strict h j (c + 1), fun a ha b hb => ?_⟩
    have h1 := ((mem_ascF h b j (c + 1)).1 hb).1
    split at ha
    · simp at ha; omega
    · simp at ha
theorem ascF_len (h : Int → Int) : ∀ (j : Nat) (c : Int), (ascF h j c).length ≤ j
  | 0, c => Nat.le_refl _
  | j + 1, c => by have := ascF_len h j (c + 1); rw [ascF, List.length_append]; split <;> simp <;> omega
def suitA (h : Int → Int) (q : Nat) : List Int := ascF h 13 (13 * (q : Int))
theorem asc_suits (h : Int → Int) : ascF h 52 0 = suitA h 0 ++ (suitA h 1 ++ (suitA h 2 ++ suitA h 3)) := by
  rw [show (52 : Nat) = 13 + (13 + (13 + 13)) by rfl, ascF_add, ascF_add, ascF_add]; rfl
theorem hand_asc {zss : List (List Int)} (hd : dealB zss = true) {s : Nat} (hs : s < 4) : zss.getD s [] = (ascF (holderF zss) 52 0).filter fun x => decide (holderF zss x = (s : Int)) := by
  obtain ⟨h4, hr, hn⟩ := (deal_iff zss).1 hd
  have hh := (hand_iff _).1 (hr s hs).1
  refine strict_eq _ _ ((hand_iff _).1 (hr s hs).1).2.1 ((ascF_strict _ _ _).sublist List.filter_sublist) fun x => ?_
  rw [List.mem_filter, mem_ascF]
  constructor
  · intro hx
    have h1 := hh.2.2 x hx
    have h2 := holder_at hn (by omega) hx
    exact ⟨⟨by omega, by omega, by omega⟩, by simpa using h2⟩
  · rintro ⟨⟨h1, h2, h3⟩, h5⟩
    have h5 : holderF zss x = (s : Int) := by simpa using h5
    obtain ⟨j, hj, e, hm⟩ := holder_mem h3
    obtain rfl : j = s := by omega
    exact hm

/-! ### The holders of a suit -/
def listTo (h : Int → Int) (q : Nat) (k : Nat) : List Int := ((ascF h k (13 * (q : Int) + 13 - k)).reverse).map h
theorem listTo_succ (h : Int → Int) (q k : Nat) : listTo h q (k + 1) = listTo h q k ++ if 0 ≤ h (13 * (q : Int) + (12 - k)) then [h (13 * (q : Int) + (12 - k))] else [] := by
  unfold listTo
  rw [ascF, show (13 * (q : Int) + 13 - ((k + 1 : Nat) : Int)) + 1 = 13 * (q : Int) + 13 - k by omega, show 13 * (q : Int) + 13 - ((k + 1 : Nat) : Int) = 13 * (q : Int) + (12 - k) by omega]
  split <;> simp
def listQ (h : Int → Int) (q : Nat) : List Int := ((suitA h q).reverse).map h
theorem listTo_all (h : Int → Int) (q : Nat) : listTo h q 13 = listQ h q := by unfold listTo listQ suitA; rw [show 13 * (q : Int) + 13 - ((13 : Nat) : Int) = 13 * (q : Int) by omega]
theorem listTo_len (h : Int → Int) (q k : Nat) : (listTo h q k).length ≤ k := by simpa [listTo] using ascF_len h k _
theorem listQ_len (h : Int → Int) (q : Nat) : (listQ h q).length ≤ 13 := by rw [← listTo_all]; exact listTo_len h q 13
def listsTo (h : Int → Int) : Nat → List (List Int)
  | 0 => []
  | q + 1 => listsTo h q ++ [listQ h q]
theorem listsTo_length (h : Int → Int) : ∀ q, (listsTo h q).length = q
  | 0 => rfl
  | q + 1 => by simp [listsTo, listsTo_length h q]
theorem lists_four (h : Int → Int) : listsTo h 4 = [listQ h 0, listQ h 1, listQ h 2, listQ h 3] := rfl
def hlV (zss : List (List Int)) : List (List Int) := if dealB zss then listsTo (holderF zss) 4 else []

/-! ### The deal with given holders -/
def madeL (q s : Int) : List Int → Int → List Int
  | [], _ => []
  | x :: l, i => madeL q s l (i + 1) ++ if x = s then [13 * q + 12 - i] else []
theorem madeL_snoc (q s y : Int) : ∀ (l : List Int) (i : Int), madeL q s (l ++ [y]) i = (if y = s then [13 * q + 12 - (i + l.length)] else []) ++ madeL q s l i
  | [], i => by simp [madeL]
  | x :: l, i => by
    rw [List.cons_append, madeL, madeL_snoc q s y l (i + 1), madeL, List.append_assoc, show i + 1 + (l.length : Int) = i + ((x :: l).length : Int) by simp; omega]
def madeTo (lists : List (List Int)) (s : Int) : Nat → List Int
  | 0 => []
  | q + 1 => madeTo lists s q ++ madeL (q : Int) s (lists.getD q []) 0
def madeRows (lists : List (List Int)) : List (List Int) := [madeTo lists 0 4, madeTo lists 1 4, madeTo lists 2 4, madeTo lists 3 4]

/-! ### Relative ranks -/
def relF (h : Int → Int) (c : Int) : Int := 13 * (c / 13) + (12 - ((ascF h (12 - c % 13).toNat (c + 1)).length : Int))
theorem made_asc (h : Int → Int) (q : Nat) (s : Int) : ∀ (j : Nat) (c : Int), j ≤ 13 → c + j = 13 * (q : Int) + 13 → madeL q s ((ascF h j c).reverse.map h) 0 = ((ascF h j c).filter fun x => decide (h x = s)).map (relF h)
  | 0, c, _, _ => by simp [ascF, madeL]
  | j + 1, c, hj, hc => by
    have ih := made_asc h q s j (c + 1) (by omega) (by omega)
    have hr : relF h c = 13 * (q : Int) + 12 - (0 + ((ascF h j (c + 1)).length : Int)) := by
      have e1 : c / 13 = q := by omega
      have e2 : (12 - c % 13).toNat = j := by omega
      unfold relF; rw [e1, e2]; omega
    rw [ascF]
    by_cases hp : 0 ≤ h c
    · rw [if_pos hp, List.singleton_append, List.reverse_cons, List.map_append, List.map_cons, List.map_nil, madeL_snoc, ih, List.length_map, List.length_reverse, List.filter_cons]
      by_cases e : h c = s
      · rw [if_pos e, if_pos (by simpa using e), List.map_cons, hr]; rfl
      · rw [if_neg e, if_neg (by simpa using e), List.nil_append]
    · rw [if_neg hp, List.nil_append]; exact ih
theorem made_suit (h : Int → Int) (q : Nat) (s : Int) : madeL q s (listQ h q) 0 = ((suitA h q).filter fun x => decide (h x = s)).map (relF h) := made_asc h q s 13 _ (Nat.le_refl _) rfl
def relRows (zss : List (List Int)) : List (List Int) := zss.map fun row => row.map (relF (holderF zss))
theorem made_row {zss : List (List Int)} (hd : dealB zss = true) {s : Nat} (hs : s < 4) : madeTo (listsTo (holderF zss) 4) (s : Int) 4 = (zss.getD s []).map (relF (holderF zss)) := by
  rw [hand_asc hd hs, asc_suits, lists_four]
  simp only [List.filter_append, List.map_append, ← made_suit]
  simp only [madeTo, List.nil_append]
  rw [List.append_assoc, List.append_assoc]
  rfl
theorem made_rel {zss : List (List Int)} (hd : dealB zss = true) : madeRows (listsTo (holderF zss) 4) = relRows zss := by
  obtain ⟨a, b, c, d, e⟩ := four_rows ((deal_iff zss).1 hd).1
  have h0 := made_row hd (s := 0) (by omega)
  have h1 := made_row hd (s := 1) (by omega)
  have h2 := made_row hd (s := 2) (by omega)
  have h3 := made_row hd (s := 3) (by omega)
  unfold madeRows
  rw [show madeTo (listsTo (holderF zss) 4) 0 4 = _ from h0, show madeTo (listsTo (holderF zss) 4) 1 4 = _ from h1, show madeTo (listsTo (holderF zss) 4) 2 4 = _ from h2, show madeTo (listsTo (holderF zss) 4) 3 4 = _ from h3]
  unfold relRows
  generalize relF (holderF zss) = f
  subst e
  rfl
def relV (zss : List (List Int)) : List (List Int) := if dealB zss then relRows zss else []

/-! ### Groups -/
def startsP (p : Int → Bool) : List Int → Bool
  | [] => false
  | x :: _ => p x
def pushLast (gs : List (List Int)) (c : Int) : List (List Int) := gs.set (gs.length - 1) (gs.getD (gs.length - 1) [] ++ [c])
theorem pushLast_snoc (gs : List (List Int)) (g : List Int) (c : Int) : pushLast (gs ++ [g]) c = gs ++ [g ++ [c]] := by
  unfold pushLast
  rw [List.length_append, List.length_singleton, Nat.add_sub_cancel, getD_snoc, if_neg (Nat.lt_irrefl _), if_pos rfl, List.set_append_right _ _ (Nat.le_refl _), Nat.sub_self]
  rfl
/-- The runs of a list that is read from its end. -/
def runsR (p : Int → Bool) : List Int → List (List Int)
  | [] => []
  | x :: l => if p x then (if startsP p l then pushLast (runsR p l) x else runsR p l ++ [[x]]) else runsR p l
theorem runs_last (p : Int → Bool) : ∀ l : List Int, startsP p l = true → ∃ gs, runsR p l = gs ++ [(l.takeWhile p).reverse]
  | [], h => by simp [startsP] at h
  | x :: l, h => by
    have hx : p x = true := h
    rw [runsR, if_pos hx, List.takeWhile_cons_of_pos hx, List.reverse_cons]
    by_cases hs : startsP p l = true
    · obtain ⟨gs, e⟩ := runs_last p l hs
      exact ⟨gs, by rw [if_pos hs, e, pushLast_snoc]⟩
    · refine ⟨runsR p l, ?_⟩
      rw [if_neg hs]
      cases l with
      | nil => rfl
      | cons y l => have : ¬ p y = true := hs
                    rw [List.takeWhile_cons_of_neg this]; rfl
theorem runs_flat (p : Int → Bool) : ∀ l : List Int, (runsR p l).flatten = l.reverse.filter p
  | [] => rfl
  | x :: l => by
    have ih := runs_flat p l
    rw [runsR, List.reverse_cons, List.filter_append]
    by_cases hx : p x = true
    · rw [if_pos hx, List.filter_cons, if_pos hx, List.filter_nil]
      by_cases hs : startsP p l = true
      · obtain ⟨gs, e⟩ := runs_last p l hs
        rw [if_pos hs, ← ih, e, pushLast_snoc]; simp
      · rw [if_neg hs, ← ih]; simp
    · rw [if_neg hx, ih, List.filter_cons, if_neg hx]; simp
theorem runs_sub (p : Int → Bool) {l r : List Int} {x : Int} (hr : r ∈ runsR p l) (hx : x ∈ r) : x ∈ l ∧ p x = true := by
  have : x ∈ (runsR p l).flatten := List.mem_flatten.2 ⟨r, hr, hx⟩
  rw [runs_flat, List.mem_filter, List.mem_reverse] at this
  exact this
theorem runs_ne (p : Int → Bool) : ∀ (l : List Int), ∀ r ∈ runsR p l, r ≠ []
  | [], r, h => by simp [runsR] at h
  | x :: l, r, h => by
    have ih := runs_ne p l
    rw [runsR] at h
    by_cases hx : p x = true
    · rw [if_pos hx] at h
      by_cases hs : startsP p l = true
      · obtain ⟨gs, e⟩ := runs_last p l hs
        rw [if_pos hs, e, pushLast_snoc, List.mem_append, List.mem_singleton] at h
        rcases h with h | rfl
        · exact ih r (by rw [e]; exact List.mem_append_left _ h)
        · simp
      · rw [if_neg hs, List.mem_append, List.mem_singleton] at h
        rcases h with h | rfl
        · exact ih r h
        · simp
    · rw [if_neg hx] at h; exact ih r h
theorem tw_snoc_neg {p : Int → Bool} {a : Int} (h : ¬ p a = true) : ∀ l : List Int, (l ++ [a]).takeWhile p = l.takeWhile p
  | [] => by simp [h]
  | x :: l => by
    by_cases hx : p x = true
    · rw [List.cons_append, List.takeWhile_cons_of_pos hx, List.takeWhile_cons_of_pos hx, tw_snoc_neg h l]
    · rw [List.cons_append, List.takeWhile_cons_of_neg hx, List.takeWhile_cons_of_neg hx]
theorem tw_app_neg {p : Int → Bool} {a : Int} {m : List Int} : ∀ l : List Int, (∃ y ∈ l, ¬ p y = true) → (l ++ m).takeWhile p = l.takeWhile p
  | [], h => by simp at h
  | x :: l, h => by
    by_cases hx : p x = true
    · rw [List.cons_append, List.takeWhile_cons_of_pos hx, List.takeWhile_cons_of_pos hx, tw_app_neg (a := a) l]
      obtain ⟨y, hy, hn⟩ := h
      rcases List.mem_cons.1 hy with rfl | q
      · exact absurd hx hn
      · exact ⟨y, q, hn⟩
    · rw [List.cons_append, List.takeWhile_cons_of_neg hx, List.takeWhile_cons_of_neg hx]
theorem tw_all {p : Int → Bool} {m : List Int} : ∀ l : List Int, (∀ y ∈ l, p y = true) → (l ++ m).takeWhile p = l ++ m.takeWhile p
  | [], _ => rfl
  | x :: l, h => by
    rw [List.cons_append, List.takeWhile_cons_of_pos (h x (by simp)), tw_all l (fun y hy => h y (by simp [hy])), List.cons_append]
theorem tw_mem {p : Int → Bool} {x : Int} : ∀ {u v : List Int}, x ∉ u → x ∈ (u ++ x :: v).takeWhile p → ∀ y ∈ u, p y = true
  | [], v, _, _ => by simp
  | a :: u, v, hn, h => by
    have hxa : x ≠ a := fun e => hn (by simp [e])
    by_cases ha : p a = true
    · rw [List.cons_append, List.takeWhile_cons_of_pos ha] at h
      have h' : x ∈ (u ++ x :: v).takeWhile p := by
        rcases List.mem_cons.1 h with q | q
        · exact absurd q hxa
        · exact q
      intro y hy
      rcases List.mem_cons.1 hy with rfl | q
      · exact ha
      · exact tw_mem (fun q => hn (by simp [q])) h' y q
    · rw [List.cons_append, List.takeWhile_cons_of_neg ha] at h
      simp at h
theorem runs_at (p : Int → Bool) : ∀ (l : List Int), l.Nodup → ∀ r ∈ runsR p l, ∀ (u : List Int) (x : Int) (v : List Int), l = u ++ x :: v → x ∈ r → r = (v.takeWhile p).reverse ++ x :: (u.reverse.takeWhile p)
  | [], _, r, hr, _, _, _, _, _ => by simp [runsR] at hr
  | a :: l, hn, r, hr, u, x, v, e, hx => by
    have ih := runs_at p l (List.nodup_cons.1 hn).2
    have han : a ∉ l := (List.nodup_cons.1 hn).1
    have hpx := (runs_sub p hr hx).2
    rw [runsR] at hr
    cases u with
    | nil =>
      simp only [List.nil_append, List.cons.injEq] at e
      obtain ⟨rfl, rfl⟩ := e
      rw [if_pos hpx] at hr
      by_cases hs : startsP p l = true
      · obtain ⟨gs, eg⟩ := runs_last p l hs
        rw [if_pos hs, eg, pushLast_snoc, List.mem_append, List.mem_singleton] at hr
        rcases hr with hr | rfl
        · exact absurd (runs_sub p (l := l) (by rw [eg]; exact List.mem_append_left _ hr) hx).1 han
        · simp
      · rw [if_neg hs, List.mem_append, List.mem_singleton] at hr
        rcases hr with hr | rfl
        · exact absurd (runs_sub p hr hx).1 han
        · cases l with
          | nil => rfl
          | cons y l => have : ¬ p y = true := hs
                        rw [List.takeWhile_cons_of_neg this]; rfl
    | cons b u =>
      simp only [List.cons_append, List.cons.injEq] at e
      obtain ⟨rfl, rfl⟩ := e
      have hxl : x ∈ u ++ x :: v := by simp
      have hxa : x ≠ a := fun q => han (q ▸ hxl)
      rw [List.reverse_cons]
      by_cases hpa : p a = true
      · rw [if_pos hpa] at hr
        by_cases hs : startsP p (u ++ x :: v) = true
        · obtain ⟨gs, eg⟩ := runs_last p _ hs
          have hfl := runs_flat p (u ++ x :: v)
          have hnf : (runsR p (u ++ x :: v)).flatten.Nodup := by rw [hfl]; exact (((List.reverse_perm _).nodup_iff).2 (List.nodup_cons.1 hn).2).sublist List.filter_sublist
          have hxu : x ∉ u := fun q => by
            have := (List.nodup_append.1 (List.nodup_cons.1 hn).2).2.2 x q x (by simp)
            exact this rfl
          rw [if_pos hs, eg, pushLast_snoc, List.mem_append, List.mem_singleton] at hr
          rcases hr with hr | rfl
          · have hi := ih r (by rw [eg]; exact List.mem_append_left _ hr) u x v rfl hx
            have hsome : ∃ y ∈ u.reverse, ¬ p y = true := by
              apply Classical.byContradiction
              intro hno
              have hall : ∀ y ∈ u, p y = true := fun y hy => Classical.byContradiction fun q => hno ⟨y, by simpa using hy, q⟩
              rw [eg, List.flatten_append] at hnf
              have hmem : x ∈ (u ++ x :: v).takeWhile p := by rw [tw_all u hall, List.takeWhile_cons_of_pos hpx]; simp
              exact (List.nodup_append.1 hnf).2.2 x (List.mem_flatten.2 ⟨r, hr, hx⟩) x (by simpa using hmem) rfl
            rw [tw_app_neg (a := a) _ hsome]; exact hi
          · have hx' : x ∈ (u ++ x :: v).takeWhile p := by
              rw [List.mem_append, List.mem_reverse, List.mem_singleton] at hx
              rcases hx with q | q
              · exact q
              · exact absurd q hxa
            have hall := tw_mem hxu hx'
            rw [tw_all u hall, List.takeWhile_cons_of_pos hpx, tw_all u.reverse (fun y hy => hall y (by simpa using hy))]
            simp [hpa]
        · rw [if_neg hs, List.mem_append, List.mem_singleton] at hr
          rcases hr with hr | rfl
          · have hi := ih r hr u x v rfl hx
            cases u with
            | nil => exact absurd hpx hs
            | cons b u =>
              have hb : ¬ p b = true := hs
              rw [tw_app_neg (a := a) _ ⟨b, by simp, hb⟩]; exact hi
          · exact absurd (List.mem_singleton.1 hx) hxa
      · rw [if_neg hpa] at hr
        rw [tw_snoc_neg hpa]
        exact ih r hr u x v rfl hx

/-! ### A group read off, card by card -/
def downL (h : Int → Int) (s : Int) : Nat → Int → List Int
  | 0, _ => []
  | j + 1, c => if 0 ≤ h c ∧ h c ≠ s then [] else downL h s j (c - 1) ++ if h c = s then [c] else []
def upL (h : Int → Int) (s : Int) : Nat → Int → List Int
  | 0, _ => []
  | j + 1, c => if 0 ≤ h c ∧ h c ≠ s then [] else (if h c = s then [c] else []) ++ upL h s j (c + 1)
def grpF (h : Int → Int) (c : Int) : List Int := downL h (h c) (c % 13).toNat (c - 1) ++ c :: upL h (h c) (12 - c % 13).toNat (c + 1)
theorem downL_len (h : Int → Int) (s : Int) : ∀ (j : Nat) (c : Int), (downL h s j c).length ≤ j
  | 0, _ => Nat.le_refl _
  | j + 1, c => by
    have := downL_len h s j (c - 1)
    rw [downL]
    split
    · simp
    · rw [List.length_append]; split <;> simp <;> omega
theorem upL_len (h : Int → Int) (s : Int) : ∀ (j : Nat) (c : Int), (upL h s j c).length ≤ j
  | 0, _ => Nat.le_refl _
  | j + 1, c => by
    have := upL_len h s j (c + 1)
    rw [upL]
    split
    · simp
    · rw [List.length_append]; split <;> simp <;> omega
theorem grpF_len (h : Int → Int) (c : Int) : (grpF h c).length ≤ 13 := by
  have h1 := downL_len h (h c) (c % 13).toNat (c - 1)
  have h2 := upL_len h (h c) (12 - c % 13).toNat (c + 1)
  unfold grpF
  rw [List.length_append, List.length_cons]
  omega
theorem downL_tw (h : Int → Int) {s : Int} (hs : 0 ≤ s) (b : Int) : ∀ j : Nat, downL h s j (b + j - 1) = ((ascF h j b).reverse.takeWhile fun x => decide (h x = s)).reverse
  | 0 => rfl
  | j + 1 => by
    have ih := downL_tw h hs b j
    rw [downL, ascF_snoc, List.reverse_append, show b + ((j + 1 : Nat) : Int) - 1 = b + j by omega, ih]
    by_cases hp : 0 ≤ h (b + j)
    · rw [if_pos hp]
      by_cases e : h (b + j) = s
      · rw [if_neg (fun q => q.2 e), if_pos e, List.reverse_singleton, List.singleton_append, List.takeWhile_cons_of_pos (by simpa using e), List.reverse_cons]
      · rw [if_pos ⟨hp, e⟩, List.reverse_singleton, List.singleton_append, List.takeWhile_cons_of_neg (by simpa using e)]; rfl
    · have e : ¬ h (b + j) = s := by omega
      rw [if_neg hp, if_neg (fun q => hp q.1), if_neg e]; simp
theorem upL_tw (h : Int → Int) {s : Int} (hs : 0 ≤ s) : ∀ (j : Nat) (c : Int), upL h s j c = (ascF h j c).takeWhile fun x => decide (h x = s)
  | 0, _ => rfl
  | j + 1, c => by
    have ih := upL_tw h hs j (c + 1)
    rw [upL, ascF, ih]
    by_cases hp : 0 ≤ h c
    · rw [if_pos hp, List.singleton_append]
      by_cases e : h c = s
      · rw [if_neg (fun q => q.2 e), if_pos e, List.takeWhile_cons_of_pos (by simpa using e)]; rfl
      · rw [if_pos ⟨hp, e⟩, List.takeWhile_cons_of_neg (by simpa using e)]
    · have e : ¬ h c = s := by omega
      rw [if_neg hp, if_neg (fun q => hp q.1), if_neg e]; simp
def runsS (h : Int → Int) (s : Int) (q : Nat) : List (List Int) := runsR (fun x => decide (h x = s)) (suitA h q).reverse
/-- A run of a seat in a suit is the group of each of its cards. -/
theorem run_grp (h : Int → Int) {s : Int} (hs : 0 ≤ s) (q : Nat) {r : List Int} (hr : r ∈ runsS h s q) {x : Int} (hx : x ∈ r) : grpF h x = r := by
  have hm := runs_sub _ hr hx
  have hxs : h x = s := by simpa using hm.2
  have hxm := (mem_ascF h x 13 _).1 (by simpa [suitA] using hm.1)
  obtain ⟨t, ht⟩ : ∃ t : Nat, x = 13 * (q : Int) + t := ⟨(x - 13 * (q : Int)).toNat, by omega⟩
  have ht13 : t < 13 := by omega
  have e1 : (x % 13).toNat = t := by omega
  have e2 : (12 - x % 13).toNat = 12 - t := by omega
  have hsp : suitA h q = ascF h t (13 * (q : Int)) ++ x :: ascF h (12 - t) (x + 1) := by
    unfold suitA
    rw [show (13 : Nat) = t + ((12 - t) + 1) by omega, ascF_add, ascF, ← ht, if_pos (by omega), List.singleton_append]
  have hnd : (suitA h q).reverse.Nodup := ((List.reverse_perm _).nodup_iff).2 (strict_nodup (ascF_strict h 13 _))
  have := runs_at _ _ hnd r hr (ascF h (12 - t) (x + 1)).reverse x (ascF h t (13 * (q : Int))).reverse (by rw [hsp]; simp) hx
  rw [this, List.reverse_reverse]
  unfold grpF
  rw [e1, e2, hxs, upL_tw h hs, show x - 1 = 13 * (q : Int) + t - 1 by omega, downL_tw h hs]
def runsTo (h : Int → Int) (s : Int) : Nat → List (List Int)
  | 0 => []
  | q + 1 => runsTo h s q ++ runsS h s q
theorem mem_runsTo {h : Int → Int} {s : Int} {r : List Int} : ∀ {k : Nat}, r ∈ runsTo h s k → ∃ q, q < k ∧ r ∈ runsS h s q
  | 0, hr => by simp [runsTo] at hr
  | k + 1, hr => by
    rw [runsTo, List.mem_append] at hr
    rcases hr with hr | hr
    · obtain ⟨q, hq, h1⟩ := mem_runsTo hr; exact ⟨q, by omega, h1⟩
    · exact ⟨k, by omega, hr⟩
theorem runs_hand {zss : List (List Int)} (hd : dealB zss = true) {s : Nat} (hs : s < 4) : (runsTo (holderF zss) (s : Int) 4).flatten = zss.getD s [] := by
  rw [hand_asc hd hs, asc_suits]
  simp only [runsTo, List.flatten_append, runsS, runs_flat, List.reverse_reverse, List.filter_append, List.nil_append, List.append_assoc]
/-- The first card of a group stands for it. -/
def firstsF (G : Int → List Int) : List Int → List (List Int)
  | [] => []
  | x :: l => (if (G x).getD 0 0 = x then [G x] else []) ++ firstsF G l
theorem firsts_app (G : Int → List Int) : ∀ a b : List Int, firstsF G (a ++ b) = firstsF G a ++ firstsF G b
  | [], b => rfl
  | x :: a, b => by rw [List.cons_append, firstsF, firsts_app G a b, firstsF, List.append_assoc]
theorem firsts_take (G : Int → List Int) (l : List Int) {k : Nat} (hk : k < l.length) : firstsF G (l.take (k + 1)) = firstsF G (l.take k) ++ if (G (l.getD k 0)).getD 0 0 = l.getD k 0 then [G (l.getD k 0)] else [] := by
  rw [List.take_succ_eq_append_getElem hk, firsts_app, getD_at _ _ hk]
  simp [firstsF]
theorem firsts_none (G : Int → List Int) : ∀ l : List Int, (∀ x ∈ l, (G x).getD 0 0 ≠ x) → firstsF G l = []
  | [], _ => rfl
  | x :: l, h => by rw [firstsF, if_neg (h x (by simp)), firsts_none G l (fun y hy => h y (by simp [hy]))]; rfl
theorem firsts_runs (G : Int → List Int) : ∀ rs : List (List Int), (∀ r ∈ rs, r ≠ []) → (∀ r ∈ rs, ∀ x ∈ r, G x = r) → rs.flatten.Nodup → firstsF G rs.flatten = rs
  | [], _, _, _ => rfl
  | r :: rs, hne, hG, hn => by
    rw [List.flatten_cons, firsts_app, firsts_runs G rs (fun r h => hne r (by simp [h])) (fun r h => hG r (by simp [h])) (List.nodup_append.1 hn).2.1]
    have hGr := hG r (by simp)
    have hnr := (List.nodup_append.1 hn).1
    cases r with
    | nil => exact absurd rfl (hne [] (by simp))
    | cons x l =>
      rw [firstsF, hGr x (by simp), if_pos (show (x :: l).getD 0 0 = x from rfl), firsts_none G l (fun y hy => ?_)]
      · rfl
      · rw [hGr y (by simp [hy])]
        intro e
        have e' : x = y := e
        exact (List.nodup_cons.1 hnr).1 (e' ▸ hy)
theorem groups_runs {zss : List (List Int)} (hd : dealB zss = true) {s : Nat} (hs : s < 4) : firstsF (grpF (holderF zss)) (zss.getD s []) = runsTo (holderF zss) (s : Int) 4 := by
  have hfl := runs_hand hd hs
  rw [← hfl]
  refine firsts_runs _ _ (fun r hr => ?_) (fun r hr x hx => ?_) ?_
  · obtain ⟨q, _, h1⟩ := mem_runsTo hr; exact runs_ne _ _ r h1
  · obtain ⟨q, _, h1⟩ := mem_runsTo hr; exact run_grp _ (by omega) q h1 hx
  · rw [hfl]; exact strict_nodup ((hand_iff _).1 (((deal_iff zss).1 hd).2.1 s hs).1).2.1
def grpV (zss : List (List Int)) (s : Int) : List (List Int) := if dealB zss && inB s 0 3 then runsTo (holderF zss) s 4 else []
def grpE (zss : List (List Int)) (s : Int) : Int := if dealB zss then (if inB s 0 3 then 0 else 2) else 1
def eqcV (zss : List (List Int)) (c : Int) : List Int := if dealB zss && decide (0 ≤ holderF zss c) then grpF (holderF zss) c else []
def eqcE (zss : List (List Int)) (c : Int) : Int := if dealB zss then (if 0 ≤ holderF zss c then 0 else 4) else 1

/-! ### The program's search for groups -/
def stepG (h : Int → Int) (s : Int) (gs : List (List Int)) (o : Bool) (c : Int) : List (List Int) × Bool :=
  if h c = -1 then (gs, o) else if h c = s then ((if o then pushLast gs c else gs ++ [[c]]), true) else (gs, false)
/-- Behind k cards of a suit: the runs, and whether the last one is open. -/
theorem startsP_asc (h : Int → Int) (s : Int) (b : Int) (k : Nat) (hc : h (b + k) = -1 ∨ 0 ≤ h (b + k)) (gs : List (List Int)) (p : Int → Bool) (hp : p = fun x => decide (h x = s)) (o : Bool) (ho : o = startsP p (ascF h k b).reverse) (G : List (List Int)) (hG : gs = G ++ runsR p (ascF h k b).reverse) :
    (stepG h s gs o (b + k)) = (G ++ runsR p (ascF h (k + 1) b).reverse, startsP p (ascF h (k + 1) b).reverse) := by
  rw [ascF_snoc, List.reverse_append]
  unfold stepG
  by_cases h1 : h (b + k) = -1
  · rw [if_pos h1, if_neg (by omega), hG, ho]; rfl
  · have h0 : 0 ≤ h (b + k) := by omega
    rw [if_neg h1, if_pos h0, List.reverse_singleton, List.singleton_append]
    by_cases e : h (b + k) = s
    · have hpe : p (b + k) = true := by rw [hp]; simpa using e
      rw [if_pos e, runsR, if_pos hpe, show startsP p ((b + (k : Int)) :: (ascF h k b).reverse) = p (b + k) from rfl, hpe, ← ho]
      cases o with
      | true =>
        rw [if_pos rfl, if_pos rfl, hG]
        obtain ⟨r, er⟩ := runs_last p _ ho.symm
        rw [er, ← List.append_assoc, pushLast_snoc, pushLast_snoc, List.append_assoc]
      | false => rw [if_neg (by simp), if_neg (by simp), hG, List.append_assoc]
    · have hpe : p (b + k) = false := by rw [hp]; simpa using e
      rw [if_neg e, runsR, if_neg (by rw [hpe]; simp), show startsP p ((b + (k : Int)) :: (ascF h k b).reverse) = p (b + k) from rfl, hpe, hG]
theorem holder_cases (zss : List (List Int)) (c : Int) : holderF zss c = -1 ∨ 0 ≤ holderF zss c := by
  by_cases h : 0 ≤ holderF zss c
  · exact .inr h
  · exact .inl (holder_not h)

end Go.Proofs.Ytdfmkikngifjmaa.Lib1
