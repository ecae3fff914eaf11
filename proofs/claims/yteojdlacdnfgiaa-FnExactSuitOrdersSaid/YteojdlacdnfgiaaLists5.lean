/- Chapter 5, lists alone: holders by suits, relative ranks, groups. No function of the program. Chapter 5: lists of a deal's holders, and the deal made of them: lists alone. Chapter 5: a deal and its relative form: lists alone. Chapter 5: the deal with given holders: lists alone. Chapter 5: the lists of suits that a strain allows, and the smallest form of a deal: lists alone. -/
import Derived.Test.YteojdlacdnfgiaaLists3
namespace Go.Proofs.Yteojdlacdnfgiaa.Lib1

section
open Go.RowKit
set_option maxRecDepth 100000

/-! ### Cards in play, from a card on -/
def ascF (h : Int → Int) : Nat → Int → List Int
  | 0, _ => []
  | j + 1, c => (if 0 ≤ h c then [c] else []) ++ ascF h j (c + 1)
theorem ascF_add (h : Int → Int) : ∀ (a b : Nat) (c : Int), ascF h (a + b) c = ascF h a c ++ ascF h b (c + a)
  | 0, b, c => by simp [ascF]
  | a + 1, b, c => by
    rw [show a + 1 + b = (a + b) + 1 by omega, ascF, ascF_add h a b (c + 1), ascF, List.append_assoc, show c + 1 + (a : Int) = c + ((a + 1 : Nat) : Int) by omega]
theorem ascF_one (h : Int → Int) (c : Int) : ascF h 1 c = if 0 ≤ h c then [c] else [] := by simp [ascF]
theorem ascF_snoc (h : Int → Int) (j : Nat) (c : Int) : ascF h (j + 1) c = ascF h j c ++ if 0 ≤ h (c + j) then [c + (j : Int)] else [] := by rw [ascF_add, ascF_one]
theorem mem_ascF (h : Int → Int) (x : Int) : ∀ (j : Nat) (c : Int), x ∈ ascF h j c ↔ c ≤ x ∧ x < c + j ∧ 0 ≤ h x
  | 0, c => by simp [ascF]; omega
  | j + 1, c => by
    rw [ascF, List.mem_append, mem_ascF h x j (c + 1)]
    by_cases hc : 0 ≤ h c
    · rw [if_pos hc, List.mem_singleton]
      constructor
      · rintro (rfl | ⟨h1, h2, h3⟩)
        · exact ⟨by omega, by omega, hc⟩
        · exact ⟨by omega, by omega, h3⟩
      · rintro ⟨h1, h2, h3⟩
        by_cases e : x = c
        · exact .inl e
        · exact .inr ⟨by omega, by omega, h3⟩
    · rw [if_neg hc]
      constructor
      · rintro (h1 | ⟨h1, h2, h3⟩)
        · simp at h1
        · exact ⟨by omega, by omega, h3⟩
      · rintro ⟨h1, h2, h3⟩
        by_cases e : x = c
        · subst e; exact absurd h3 hc
        · exact .inr ⟨by omega, by omega, h3⟩
theorem ascF_strict (h : Int → Int) : ∀ (j : Nat) (c : Int), (ascF h j c).Pairwise (· < ·)
  | 0, c => by simp [ascF]
  | j + 1, c => by
    rw [ascF, List.pairwise_append]
    refine ⟨by split <;> simp, ascF_strict h j (c + 1), fun a ha b hb => ?_⟩
    have h1 := ((mem_ascF h b j (c + 1)).1 hb).1
    split at ha
    · simp at ha; omega
    · simp at ha
theorem ascF_len (h : Int → Int) : ∀ (j : Nat) (c : Int), (ascF h j c).length ≤ j
  | 0, c => Nat.le_refl _
  | j + 1, c => by have := ascF_len h j (c + 1); rw [ascF, List.length_append]; split <;> simp <;> omega
def suitA (h : Int → Int) (q : Nat) : List Int := ascF h 13 (13 * (q : Int))
theorem asc_suits (h : Int → Int) : ascF h 52 0 = suitA h 0 ++ (suitA h 1 ++ (suitA h 2 ++ suitA h 3)) := by
  rw [show (52 : Nat) = 13 + (13 + (13 + 13)) by rfl, ascF_add, ascF_add, ascF_add]; rfl
theorem hand_asc {zss : List (List Int)} (hd : dealB zss = true) {s : Nat} (hs : s < 4) : zss.getD s [] = (ascF (holderF zss) 52 0).filter fun x => decide (holderF zss x = (s : Int)) := by
  obtain ⟨h4, hr, hn⟩ := (deal_iff zss).1 hd
  have hh := (hand_iff _).1 (hr s hs).1
  refine strict_eq _ _ ((hand_iff _).1 (hr s hs).1).2.1 ((ascF_strict _ _ _).sublist List.filter_sublist) fun x => ?_
  rw [List.mem_filter, mem_ascF]
  constructor
  · intro hx
    have h1 := hh.2.2 x hx
    have h2 := holder_at hn (by omega) hx
    exact ⟨⟨by omega, by omega, by omega⟩, by simpa using h2⟩
  · rintro ⟨⟨h1, h2, h3⟩, h5⟩
    have h5 : holderF zss x = (s : Int) := by simpa using h5
    obtain ⟨j, hj, e, hm⟩ := holder_mem h3
    obtain rfl : j = s := by omega
    exact hm

/-! ### The holders of a suit -/
def listTo (h : Int → Int) (q : Nat) (k : Nat) : List Int := ((ascF h k (13 * (q : Int) + 13 - k)).reverse).map h
theorem listTo_succ (h : Int → Int) (q k : Nat) : listTo h q (k + 1) = listTo h q k ++ if 0 ≤ h (13 * (q : Int) + (12 - k)) then [h (13 * (q : Int) + (12 - k))] else [] := by
  unfold listTo
  rw [ascF, show (13 * (q : Int) + 13 - ((k + 1 : Nat) : Int)) + 1 = 13 * (q : Int) + 13 - k by omega, show 13 * (q : Int) + 13 - ((k + 1 : Nat) : Int) = 13 * (q : Int) + (12 - k) by omega]
  split <;> simp
def listQ (h : Int → Int) (q : Nat) : List Int := ((suitA h q).reverse).map h
theorem listTo_all (h : Int → Int) (q : Nat) : listTo h q 13 = listQ h q := by unfold listTo listQ suitA; rw [show 13 * (q : Int) + 13 - ((13 : Nat) : Int) = 13 * (q : Int) by omega]
theorem listTo_len (h : Int → Int) (q k : Nat) : (listTo h q k).length ≤ k := by simpa [listTo] using ascF_len h k _
theorem listQ_len (h : Int → Int) (q : Nat) : (listQ h q).length ≤ 13 := by rw [← listTo_all]; exact listTo_len h q 13
def listsTo (h : Int → Int) : Nat → List (List Int)
  | 0 => []
  | q + 1 => listsTo h q ++ [listQ h q]
theorem listsTo_length (h : Int → Int) : ∀ q, (listsTo h q).length = q
  | 0 => rfl
  | q + 1 => by simp [listsTo, listsTo_length h q]
theorem lists_four (h : Int → Int) : listsTo h 4 = [listQ h 0, listQ h 1, listQ h 2, listQ h 3] := rfl
def hlV (zss : List (List Int)) : List (List Int) := if dealB zss then listsTo (holderF zss) 4 else []

/-! ### The deal with given holders -/
def madeL (q s : Int) : List Int → Int → List Int
  | [], _ => []
  | x :: l, i => madeL q s l (i + 1) ++ if x = s then [13 * q + 12 - i] else []
theorem madeL_snoc (q s y : Int) : ∀ (l : List Int) (i : Int), madeL q s (l ++ [y]) i = (if y = s then [13 * q + 12 - (i + l.length)] else []) ++ madeL q s l i
  | [], i => by simp [madeL]
  | x :: l, i => by
    rw [List.cons_append, madeL, madeL_snoc q s y l (i + 1), madeL, List.append_assoc, show i + 1 + (l.length : Int) = i + ((x :: l).length : Int) by simp; omega]
def madeTo (lists : List (List Int)) (s : Int) : Nat → List Int
  | 0 => []
  | q + 1 => madeTo lists s q ++ madeL (q : Int) s (lists.getD q []) 0
def madeRows (lists : List (List Int)) : List (List Int) := [madeTo lists 0 4, madeTo lists 1 4, madeTo lists 2 4, madeTo lists 3 4]

/-! ### Relative ranks -/
def relF (h : Int → Int) (c : Int) : Int := 13 * (c / 13) + (12 - ((ascF h (12 - c % 13).toNat (c + 1)).length : Int))
theorem made_asc (h : Int → Int) (q : Nat) (s : Int) : ∀ (j : Nat) (c : Int), j ≤ 13 → c + j = 13 * (q : Int) + 13 → madeL q s ((ascF h j c).reverse.map h) 0 = ((ascF h j c).filter fun x => decide (h x = s)).map (relF h)
  | 0, c, _, _ => by simp [ascF, madeL]
  | j + 1, c, hj, hc => by
    have ih := made_asc h q s j (c + 1) (by omega) (by omega)
    have hr : relF h c = 13 * (q : Int) + 12 - (0 + ((ascF h j (c + 1)).length : Int)) := by
      have e1 : c / 13 = q := by omega
      have e2 : (12 - c % 13).toNat = j := by omega
      unfold relF; rw [e1, e2]; omega
    rw [ascF]
    by_cases hp : 0 ≤ h c
    · rw [if_pos hp, List.singleton_append, List.reverse_cons, List.map_append, List.map_cons, List.map_nil, madeL_snoc, ih, List.length_map, List.length_reverse, List.filter_cons]
      by_cases e : h c = s
      · rw [if_pos e, if_pos (by simpa using e), List.map_cons, hr]; rfl
      · rw [if_neg e, if_neg (by simpa using e), List.nil_append]
    · rw [if_neg hp, List.nil_append]; exact ih
theorem made_suit (h : Int → Int) (q : Nat) (s : Int) : madeL q s (listQ h q) 0 = ((suitA h q).filter fun x => decide (h x = s)).map (relF h) := made_asc h q s 13 _ (Nat.le_refl _) rfl
def relRows (zss : List (List Int)) : List (List Int) := zss.map fun row => row.map (relF (holderF zss))
theorem made_row {zss : List (List Int)} (hd : dealB zss = true) {s : Nat} (hs : s < 4) : madeTo (listsTo (holderF zss) 4) (s : Int) 4 = (zss.getD s []).map (relF (holderF zss)) := by
  rw [hand_asc hd hs, asc_suits, lists_four]
  simp only [List.filter_append, List.map_append, ← made_suit]
  simp only [madeTo, List.nil_append]
  rw [List.append_assoc, List.append_assoc]
  rfl
theorem made_rel {zss : List (List Int)} (hd : dealB zss = true) : madeRows (listsTo (holderF zss) 4) = relRows zss := by
  obtain ⟨a, b, c, d, e⟩ := four_rows ((deal_iff zss).1 hd).1
  have h0 := made_row hd (s := 0) (by omega)
  have h1 := made_row hd (s := 1) (by omega)
  have h2 := made_row hd (s := 2) (by omega)
  have h3 := made_row hd (s := 3) (by omega)
  unfold madeRows
  rw [show madeTo (listsTo (holderF zss) 4) 0 4 = _ from h0, show madeTo (listsTo (holderF zss) 4) 1 4 = _ from h1, show madeTo (listsTo (holderF zss) 4) 2 4 = _ from h2, show madeTo (listsTo (holderF zss) 4) 3 4 = _ from h3]
  unfold relRows
  generalize relF (holderF zss) = f
  subst e
  rfl
def relV (zss : List (List Int)) : List (List Int) := if dealB zss then relRows zss else []

/-! ### Groups -/
def startsP (p : Int → Bool) : List Int → Bool
  | [] => false
  | x :: _ => p x
def pushLast (gs : List (List Int)) (c : Int) : List (List Int) := gs.set (gs.length - 1) (gs.getD (gs.length - 1) [] ++ [c])
theorem pushLast_snoc (gs : List (List Int)) (g : List Int) (c : Int) : pushLast (gs ++ [g]) c = gs ++ [g ++ [c]] := by
  unfold pushLast
  rw [List.length_append, List.length_singleton, Nat.add_sub_cancel, getD_snoc, if_neg (Nat.lt_irrefl _), if_pos rfl, List.set_append_right _ _ (Nat.le_refl _), Nat.sub_self]
  rfl
/-- The runs of a list that is read from its end. -/
def runsR (p : Int → Bool) : List Int → List (List Int)
  | [] => []
  | x :: l => if p x then (if startsP p l then pushLast (runsR p l) x else runsR p l ++ [[x]]) else runsR p l
theorem runs_last (p : Int → Bool) : ∀ l : List Int, startsP p l = true → ∃ gs, runsR p l = gs ++ [(l.takeWhile p).reverse]
  | [], h => by simp [startsP] at h
  | x :: l, h => by
    have hx : p x = true := h
    rw [runsR, if_pos hx, List.takeWhile_cons_of_pos hx, List.reverse_cons]
    by_cases hs : startsP p l = true
    · obtain ⟨gs, e⟩ := runs_last p l hs
      exact ⟨gs, by rw [if_pos hs, e, pushLast_snoc]⟩
    · refine ⟨runsR p l, ?_⟩
      rw [if_neg hs]
      cases l with
      | nil => rfl
      | cons y l => have : ¬ p y = true := hs
                    rw [List.takeWhile_cons_of_neg this]; rfl
theorem runs_flat (p : Int → Bool) : ∀ l : List Int, (runsR p l).flatten = l.reverse.filter p
  | [] => rfl
  | x :: l => by
    have ih := runs_flat p l
    rw [runsR, List.reverse_cons, List.filter_append]
    by_cases hx : p x = true
    · rw [if_pos hx, List.filter_cons, if_pos hx, List.filter_nil]
      by_cases hs : startsP p l = true
      · obtain ⟨gs, e⟩ := runs_last p l hs
        rw [if_pos hs, ← ih, e, pushLast_snoc]; simp
      · rw [if_neg hs, ← ih]; simp
    · rw [if_neg hx, ih, List.filter_cons, if_neg hx]; simp
theorem runs_sub (p : Int → Bool) {l r : List Int} {x : Int} (hr : r ∈ runsR p l) (hx : x ∈ r) : x ∈ l ∧ p x = true := by
  have : x ∈ (runsR p l).flatten := List.mem_flatten.2 ⟨r, hr, hx⟩
  rw [runs_flat, List.mem_filter, List.mem_reverse] at this
  exact this
theorem runs_ne (p : Int → Bool) : ∀ (l : List Int), ∀ r ∈ runsR p l, r ≠ []
  | [], r, h => by simp [runsR] at h
  | x :: l, r, h => by
    have ih := runs_ne p l
    rw [runsR] at h
    by_cases hx : p x = true
    · rw [if_pos hx] at h
      by_cases hs : startsP p l = true
      · obtain ⟨gs, e⟩ := runs_last p l hs
        rw [if_pos hs, e, pushLast_snoc, List.mem_append, List.mem_singleton] at h
        rcases h with h | rfl
        · exact ih r (by rw [e]; exact List.mem_append_left _ h)
        · simp
      · rw [if_neg hs, List.mem_append, List.mem_singleton] at h
        rcases h with h | rfl
        · exact ih r h
        · simp
    · rw [if_neg hx] at h; exact ih r h
theorem tw_snoc_neg {p : Int → Bool} {a : Int} (h : ¬ p a = true) : ∀ l : List Int, (l ++ [a]).takeWhile p = l.takeWhile p
  | [] => by simp [h]
  | x :: l => by
    by_cases hx : p x = true
    · rw [List.cons_append, List.takeWhile_cons_of_pos hx, List.takeWhile_cons_of_pos hx, tw_snoc_neg h l]
    · rw [List.cons_append, List.takeWhile_cons_of_neg hx, List.takeWhile_cons_of_neg hx]
theorem tw_app_neg {p : Int → Bool} {a : Int} {m : List Int} : ∀ l : List Int, (∃ y ∈ l, ¬ p y = true) → (l ++ m).takeWhile p = l.takeWhile p
  | [], h => by simp at h
  | x :: l, h => by
    by_cases hx : p x = true
    · rw [List.cons_append, List.takeWhile_cons_of_pos hx, List.takeWhile_cons_of_pos hx, tw_app_neg (a := a) l]
      obtain ⟨y, hy, hn⟩ := h
      rcases List.mem_cons.1 hy with rfl | q
      · exact absurd hx hn
      · exact ⟨y, q, hn⟩
    · rw [List.cons_append, List.takeWhile_cons_of_neg hx, List.takeWhile_cons_of_neg hx]
theorem tw_all {p : Int → Bool} {m : List Int} : ∀ l : List Int, (∀ y ∈ l, p y = true) → (l ++ m).takeWhile p = l ++ m.takeWhile p
  | [], _ => rfl
  | x :: l, h => by
    rw [List.cons_append, List.takeWhile_cons_of_pos (h x (by simp)), tw_all l (fun y hy => h y (by simp [hy])), List.cons_append]
theorem tw_mem {p : Int → Bool} {x : Int} : ∀ {u v : List Int}, x ∉ u → x ∈ (u ++ x :: v).takeWhile p → ∀ y ∈ u, p y = true
  | [], v, _, _ => by simp
  | a :: u, v, hn, h => by
    have hxa : x ≠ a := fun e => hn (by simp [e])
    by_cases ha : p a = true
    · rw [List.cons_append, List.takeWhile_cons_of_pos ha] at h
      have h' : x ∈ (u ++ x :: v).takeWhile p := by
        rcases List.mem_cons.1 h with q | q
        · exact absurd q hxa
        · exact q
      intro y hy
      rcases List.mem_cons.1 hy with rfl | q
      · exact ha
      · exact tw_mem (fun q => hn (by simp [q])) h' y q
    · rw [List.cons_append, List.takeWhile_cons_of_neg ha] at h
      simp at h
theorem runs_at (p : Int → Bool) : ∀ (l : List Int), l.Nodup → ∀ r ∈ runsR p l, ∀ (u : List Int) (x : Int) (v : List Int), l = u ++ x :: v → x ∈ r → r = (v.takeWhile p).reverse ++ x :: (u.reverse.takeWhile p)
  | [], _, r, hr, _, _, _, _, _ => by simp [runsR] at hr
  | a :: l, hn, r, hr, u, x, v, e, hx => by
    have ih := runs_at p l (List.nodup_cons.1 hn).2
    have han : a ∉ l := (List.nodup_cons.1 hn).1
    have hpx := (runs_sub p hr hx).2
    rw [runsR] at hr
    cases u with
    | nil =>
      simp only [List.nil_append, List.cons.injEq] at e
      obtain ⟨rfl, rfl⟩ := e
      rw [if_pos hpx] at hr
      by_cases hs : startsP p l = true
      · obtain ⟨gs, eg⟩ := runs_last p l hs
        rw [if_pos hs, eg, pushLast_snoc, List.mem_append, List.mem_singleton] at hr
        rcases hr with hr | rfl
        · exact absurd (runs_sub p (l := l) (by rw [eg]; exact List.mem_append_left _ hr) hx).1 han
        · simp
      · rw [if_neg hs, List.mem_append, List.mem_singleton] at hr
        rcases hr with hr | rfl
        · exact absurd (runs_sub p hr hx).1 han
        · cases l with
          | nil => rfl
          | cons y l => have : ¬ p y = true := hs
                        rw [List.takeWhile_cons_of_neg this]; rfl
    | cons b u =>
      simp only [List.cons_append, List.cons.injEq] at e
      obtain ⟨rfl, rfl⟩ := e
      have hxl : x ∈ u ++ x :: v := by simp
      have hxa : x ≠ a := fun q => han (q ▸ hxl)
      rw [List.reverse_cons]
      by_cases hpa : p a = true
      · rw [if_pos hpa] at hr
        by_cases hs : startsP p (u ++ x :: v) = true
        · obtain ⟨gs, eg⟩ := runs_last p _ hs
          have hfl := runs_flat p (u ++ x :: v)
          have hnf : (runsR p (u ++ x :: v)).flatten.Nodup := by rw [hfl]; exact (((List.reverse_perm _).nodup_iff).2 (List.nodup_cons.1 hn).2).sublist List.filter_sublist
          have hxu : x ∉ u := fun q => by
            have := (List.nodup_append.1 (List.nodup_cons.1 hn).2).2.2 x q x (by simp)
            exact this rfl
          rw [if_pos hs, eg, pushLast_snoc, List.mem_append, List.mem_singleton] at hr
          rcases hr with hr | rfl
          · have hi := ih r (by rw [eg]; exact List.mem_append_left _ hr) u x v rfl hx
            have hsome : ∃ y ∈ u.reverse, ¬ p y = true := by
              apply Classical.byContradiction
              intro hno
              have hall : ∀ y ∈ u, p y = true := fun y hy => Classical.byContradiction fun q => hno ⟨y, by simpa using hy, q⟩
              rw [eg, List.flatten_append] at hnf
              have hmem : x ∈ (u ++ x :: v).takeWhile p := by rw [tw_all u hall, List.takeWhile_cons_of_pos hpx]; simp
              exact (List.nodup_append.1 hnf).2.2 x (List.mem_flatten.2 ⟨r, hr, hx⟩) x (by simpa using hmem) rfl
            rw [tw_app_neg (a := a) _ hsome]; exact hi
          · have hx' : x ∈ (u ++ x :: v).takeWhile p := by
              rw [List.mem_append, List.mem_reverse, List.mem_singleton] at hx
              rcases hx with q | q
              · exact q
              · exact absurd q hxa
            have hall := tw_mem hxu hx'
            rw [tw_all u hall, List.takeWhile_cons_of_pos hpx, tw_all u.reverse (fun y hy => hall y (by simpa using hy))]
            simp [hpa]
        · rw [if_neg hs, List.mem_append, List.mem_singleton] at hr
          rcases hr with hr | rfl
          · have hi := ih r hr u x v rfl hx
            cases u with
            | nil => exact absurd hpx hs
            | cons b u =>
              have hb : ¬ p b = true := hs
              rw [tw_app_neg (a := a) _ ⟨b, by simp, hb⟩]; exact hi
          · exact absurd (List.mem_singleton.1 hx) hxa
      · rw [if_neg hpa] at hr
        rw [tw_snoc_neg hpa]
        exact ih r hr u x v rfl hx

/-! ### A group read off, card by card -/
def downL (h : Int → Int) (s : Int) : Nat → Int → List Int
  | 0, _ => []
  | j + 1, c => if 0 ≤ h c ∧ h c ≠ s then [] else downL h s j (c - 1) ++ if h c = s then [c] else []
def upL (h : Int → Int) (s : Int) : Nat → Int → List Int
  | 0, _ => []
  | j + 1, c => if 0 ≤ h c ∧ h c ≠ s then [] else (if h c = s then [c] else []) ++ upL h s j (c + 1)
def grpF (h : Int → Int) (c : Int) : List Int := downL h (h c) (c % 13).toNat (c - 1) ++ c :: upL h (h c) (12 - c % 13).toNat (c + 1)
theorem downL_len (h : Int → Int) (s : Int) : ∀ (j : Nat) (c : Int), (downL h s j c).length ≤ j
  | 0, _ => Nat.le_refl _
  | j + 1, c => by
    have := downL_len h s j (c - 1)
    rw [downL]
    split
    · simp
    · rw [List.length_append]; split <;> simp <;> omega
theorem upL_len (h : Int → Int) (s : Int) : ∀ (j : Nat) (c : Int), (upL h s j c).length ≤ j
  | 0, _ => Nat.le_refl _
  | j + 1, c => by
    have := upL_len h s j (c + 1)
    rw [upL]
    split
    · simp
    · rw [List.length_append]; split <;> simp <;> omega
theorem grpF_len (h : Int → Int) (c : Int) : (grpF h c).length ≤ 13 := by
  have h1 := downL_len h (h c) (c % 13).toNat (c - 1)
  have h2 := upL_len h (h c) (12 - c % 13).toNat (c + 1)
  unfold grpF
  rw [List.length_append, List.length_cons]
  omega
theorem downL_tw (h : Int → Int) {s : Int} (hs : 0 ≤ s) (b : Int) : ∀ j : Nat, downL h s j (b + j - 1) = ((ascF h j b).reverse.takeWhile fun x => decide (h x = s)).reverse
  | 0 => rfl
  | j + 1 => by
    have ih := downL_tw h hs b j
    rw [downL, ascF_snoc, List.reverse_append, show b + ((j + 1 : Nat) : Int) - 1 = b + j by omega, ih]
    by_cases hp : 0 ≤ h (b + j)
    · rw [if_pos hp]
      by_cases e : h (b + j) = s
      · rw [if_neg (fun q => q.2 e), if_pos e, List.reverse_singleton, List.singleton_append, List.takeWhile_cons_of_pos (by simpa using e), List.reverse_cons]
      · rw [if_pos ⟨hp, e⟩, List.reverse_singleton, List.singleton_append, List.takeWhile_cons_of_neg (by simpa using e)]; rfl
    · have e : ¬ h (b + j) = s := by omega
      rw [if_neg hp, if_neg (fun q => hp q.1), if_neg e]; simp
theorem upL_tw (h : Int → Int) {s : Int} (hs : 0 ≤ s) : ∀ (j : Nat) (c : Int), upL h s j c = (ascF h j c).takeWhile fun x => decide (h x = s)
  | 0, _ => rfl
  | j + 1, c => by
    have ih := upL_tw h hs j (c + 1)
    rw [upL, ascF, ih]
    by_cases hp : 0 ≤ h c
    · rw [if_pos hp, List.singleton_append]
      by_cases e : h c = s
      · rw [if_neg (fun q => q.2 e), if_pos e, List.takeWhile_cons_of_pos (by simpa using e)]; rfl
      · rw [if_pos ⟨hp, e⟩, List.takeWhile_cons_of_neg (by simpa using e)]
    · have e : ¬ h c = s := by omega
      rw [if_neg hp, if_neg (fun q => hp q.1), if_neg e]; simp
def runsS (h : Int → Int) (s : Int) (q : Nat) : List (List Int) := runsR (fun x => decide (h x = s)) (suitA h q).reverse
/-- A run of a seat in a suit is the group of each of its cards. -/
theorem run_grp (h : Int → Int) {s : Int} (hs : 0 ≤ s) (q : Nat) {r : List Int} (hr : r ∈ runsS h s q) {x : Int} (hx : x ∈ r) : grpF h x = r := by
  have hm := runs_sub _ hr hx
  have hxs : h x = s := by simpa using hm.2
  have hxm := (mem_ascF h x 13 _).1 (by simpa [suitA] using hm.1)
  obtain ⟨t, ht⟩ : ∃ t : Nat, x = 13 * (q : Int) + t := ⟨(x - 13 * (q : Int)).toNat, by omega⟩
  have ht13 : t < 13 := by omega
  have e1 : (x % 13).toNat = t := by omega
  have e2 : (12 - x % 13).toNat = 12 - t := by omega
  have hsp : suitA h q = ascF h t (13 * (q : Int)) ++ x :: ascF h (12 - t) (x + 1) := by
    unfold suitA
    rw [show (13 : Nat) = t + ((12 - t) + 1) by omega, ascF_add, ascF, ← ht, if_pos (by omega), List.singleton_append]
  have hnd : (suitA h q).reverse.Nodup := ((List.reverse_perm _).nodup_iff).2 (strict_nodup (ascF_strict h 13 _))
  have := runs_at _ _ hnd r hr (ascF h (12 - t) (x + 1)).reverse x (ascF h t (13 * (q : Int))).reverse (by rw [hsp]; simp) hx
  rw [this, List.reverse_reverse]
  unfold grpF
  rw [e1, e2, hxs, upL_tw h hs, show x - 1 = 13 * (q : Int) + t - 1 by omega, downL_tw h hs]
def runsTo (h : Int → Int) (s : Int) : Nat → List (List Int)
  | 0 => []
  | q + 1 => runsTo h s q ++ runsS h s q
theorem mem_runsTo {h : Int → Int} {s : Int} {r : List Int} : ∀ {k : Nat}, r ∈ runsTo h s k → ∃ q, q < k ∧ r ∈ runsS h s q
  | 0, hr => by simp [runsTo] at hr
  | k + 1, hr => by
    rw [runsTo, List.mem_append] at hr
    rcases hr with hr | hr
    · obtain ⟨q, hq, h1⟩ := mem_runsTo hr; exact ⟨q, by omega, h1⟩
    · exact ⟨k, by omega, hr⟩
theorem runs_hand {zss : List (List Int)} (hd : dealB zss = true) {s : Nat} (hs : s < 4) : (runsTo (holderF zss) (s : Int) 4).flatten = zss.getD s [] := by
  rw [hand_asc hd hs, asc_suits]
  simp only [runsTo, List.flatten_append, runsS, runs_flat, List.reverse_reverse, List.filter_append, List.nil_append, List.append_assoc]
/-- The first card of a group stands for it. -/
def firstsF (G : Int → List Int) : List Int → List (List Int)
  | [] => []
  | x :: l => (if (G x).getD 0 0 = x then [G x] else []) ++ firstsF G l
theorem firsts_app (G : Int → List Int) : ∀ a b : List Int, firstsF G (a ++ b) = firstsF G a ++ firstsF G b
  | [], b => rfl
  | x :: a, b => by rw [List.cons_append, firstsF, firsts_app G a b, firstsF, List.append_assoc]
theorem firsts_take (G : Int → List Int) (l : List Int) {k : Nat} (hk : k < l.length) : firstsF G (l.take (k + 1)) = firstsF G (l.take k) ++ if (G (l.getD k 0)).getD 0 0 = l.getD k 0 then [G (l.getD k 0)] else [] := by
  rw [List.take_succ_eq_append_getElem hk, firsts_app, getD_at _ _ hk]
  simp [firstsF]
theorem firsts_none (G : Int → List Int) : ∀ l : List Int, (∀ x ∈ l, (G x).getD 0 0 ≠ x) → firstsF G l = []
  | [], _ => rfl
  | x :: l, h => by rw [firstsF, if_neg (h x (by simp)), firsts_none G l (fun y hy => h y (by simp [hy]))]; rfl
theorem firsts_runs (G : Int → List Int) : ∀ rs : List (List Int), (∀ r ∈ rs, r ≠ []) → (∀ r ∈ rs, ∀ x ∈ r, G x = r) → rs.flatten.Nodup → firstsF G rs.flatten = rs
  | [], _, _, _ => rfl
  | r :: rs, hne, hG, hn => by
    rw [List.flatten_cons, firsts_app, firsts_runs G rs (fun r h => hne r (by simp [h])) (fun r h => hG r (by simp [h])) (List.nodup_append.1 hn).2.1]
    have hGr := hG r (by simp)
    have hnr := (List.nodup_append.1 hn).1
    cases r with
    | nil => exact absurd rfl (hne [] (by simp))
    | cons x l =>
      rw [firstsF, hGr x (by simp), if_pos (show (x :: l).getD 0 0 = x from rfl), firsts_none G l (fun y hy => ?_)]
      · rfl
      · rw [hGr y (by simp [hy])]
        intro e
        have e' : x = y := e
        exact (List.nodup_cons.1 hnr).1 (e' ▸ hy)
theorem groups_runs {zss : List (List Int)} (hd : dealB zss = true) {s : Nat} (hs : s < 4) : firstsF (grpF (holderF zss)) (zss.getD s []) = runsTo (holderF zss) (s : Int) 4 := by
  have hfl := runs_hand hd hs
  rw [← hfl]
  refine firsts_runs _ _ (fun r hr => ?_) (fun r hr x hx => ?_) ?_
  · obtain ⟨q, _, h1⟩ := mem_runsTo hr; exact runs_ne _ _ r h1
  · obtain ⟨q, _, h1⟩ := mem_runsTo hr; exact run_grp _ (by omega) q h1 hx
  · rw [hfl]; exact strict_nodup ((hand_iff _).1 (((deal_iff zss).1 hd).2.1 s hs).1).2.1
def grpV (zss : List (List Int)) (s : Int) : List (List Int) := if dealB zss && inB s 0 3 then runsTo (holderF zss) s 4 else []
def grpE (zss : List (List Int)) (s : Int) : Int := if dealB zss then (if inB s 0 3 then 0 else 2) else 1
def eqcV (zss : List (List Int)) (c : Int) : List Int := if dealB zss && decide (0 ≤ holderF zss c) then grpF (holderF zss) c else []
def eqcE (zss : List (List Int)) (c : Int) : Int := if dealB zss then (if 0 ≤ holderF zss c then 0 else 4) else 1

/-! ### The program's search for groups -/
def stepG (h : Int → Int) (s : Int) (gs : List (List Int)) (o : Bool) (c : Int) : List (List Int) × Bool :=
  if h c = -1 then (gs, o) else if h c = s then ((if o then pushLast gs c else gs ++ [[c]]), true) else (gs, false)
/-- Behind k cards of a suit: the runs, and whether the last one is open. -/
theorem startsP_asc (h : Int → Int) (s : Int) (b : Int) (k : Nat) (hc : h (b + k) = -1 ∨ 0 ≤ h (b + k)) (gs : List (List Int)) (p : Int → Bool) (hp : p = fun x => decide (h x = s)) (o : Bool) (ho : o = startsP p (ascF h k b).reverse) (G : List (List Int)) (hG : gs = G ++ runsR p (ascF h k b).reverse) :
    (stepG h s gs o (b + k)) = (G ++ runsR p (ascF h (k + 1) b).reverse, startsP p (ascF h (k + 1) b).reverse) := by
  rw [ascF_snoc, List.reverse_append]
  unfold stepG
  by_cases h1 : h (b + k) = -1
  · rw [if_pos h1, if_neg (by omega), hG, ho]; rfl
  · have h0 : 0 ≤ h (b + k) := by omega
    rw [if_neg h1, if_pos h0, List.reverse_singleton, List.singleton_append]
    by_cases e : h (b + k) = s
    · have hpe : p (b + k) = true := by rw [hp]; simpa using e
      rw [if_pos e, runsR, if_pos hpe, show startsP p ((b + (k : Int)) :: (ascF h k b).reverse) = p (b + k) from rfl, hpe, ← ho]
      cases o with
      | true =>
        rw [if_pos rfl, if_pos rfl, hG]
        obtain ⟨r, er⟩ := runs_last p _ ho.symm
        rw [er, ← List.append_assoc, pushLast_snoc, pushLast_snoc, List.append_assoc]
      | false => rw [if_neg (by simp), if_neg (by simp), hG, List.append_assoc]
    · have hpe : p (b + k) = false := by rw [hp]; simpa using e
      rw [if_neg e, runsR, if_neg (by rw [hpe]; simp), show startsP p ((b + (k : Int)) :: (ascF h k b).reverse) = p (b + k) from rfl, hpe, hG]
theorem holder_cases (zss : List (List Int)) (c : Int) : holderF zss c = -1 ∨ 0 ≤ holderF zss c := by
  by_cases h : 0 ≤ holderF zss c
  · exact .inr h
  · exact .inl (holder_not h)
end

section
open Go.RowKit
set_option maxRecDepth 100000

def rowSt (lists : List (List Int)) (q k : Nat) (s : Int) : List Int := madeTo lists s q ++ madeL (q : Int) s ((lists.getD q []).drop k) (k : Int)
def rowsSt (lists : List (List Int)) (q k : Nat) : List (List Int) := [rowSt lists q k 0, rowSt lists q k 1, rowSt lists q k 2, rowSt lists q k 3]
theorem rowSt_all (lists : List (List Int)) (q : Nat) (s : Int) : rowSt lists q (lists.getD q []).length s = madeTo lists s q := by
  unfold rowSt; rw [List.drop_length]; simp [madeL]
theorem rowsSt_start (lists : List (List Int)) : rowsSt lists 0 (lists.getD 0 []).length = [[], [], [], []] := by
  unfold rowsSt; simp only [rowSt_all]; rfl
theorem rowsSt_next (lists : List (List Int)) (q : Nat) : rowsSt lists (q + 1) (lists.getD (q + 1) []).length = rowsSt lists q 0 := by
  unfold rowsSt; simp only [rowSt_all]; rfl
theorem rowsSt_done (lists : List (List Int)) : rowsSt lists 4 (lists.getD 4 []).length = madeRows lists := by
  unfold rowsSt; simp only [rowSt_all]; rfl
theorem rowSt_step (lists : List (List Int)) {q k : Nat} (hk : k < (lists.getD q []).length) (s : Int) : rowSt lists q k s = rowSt lists q (k + 1) s ++ if (lists.getD q []).getD k 0 = s then [13 * (q : Int) + 12 - (k : Int)] else [] := by
  unfold rowSt
  generalize lists.getD q [] = l at hk
  rw [List.drop_eq_getElem_cons hk, madeL, getD_at _ _ hk, ← List.append_assoc]
  rfl
theorem rowsSt_step (lists : List (List Int)) {q k t : Nat} (hk : k < (lists.getD q []).length) (ht : t < 4) (hx : (lists.getD q []).getD k 0 = (t : Int)) :
    rowsSt lists q k = (rowsSt lists q (k + 1)).set t ((rowsSt lists q (k + 1)).getD t [] ++ [13 * (q : Int) + 12 - (k : Int)]) := by
  have h0 := rowSt_step lists hk 0
  have h1 := rowSt_step lists hk 1
  have h2 := rowSt_step lists hk 2
  have h3 := rowSt_step lists hk 3
  rw [hx] at h0 h1 h2 h3
  unfold rowsSt
  rw [h0, h1, h2, h3]
  rcases (by omega : t = 0 ∨ t = 1 ∨ t = 2 ∨ t = 3) with rfl | rfl | rfl | rfl <;> simp
theorem rowsSt_length (lists : List (List Int)) (q k : Nat) : (rowsSt lists q k).length = 4 := rfl
theorem madeL_len (q s : Int) : ∀ (l : List Int) (i : Int), (madeL q s l i).length ≤ l.length
  | [], i => Nat.le_refl _
  | x :: l, i => by have := madeL_len q s l (i + 1); rw [madeL, List.length_append]; split <;> simp <;> omega
theorem madeTo_len (lists : List (List Int)) (s : Int) (h : ∀ q, (lists.getD q []).length ≤ 13) : ∀ q, (madeTo lists s q).length ≤ 13 * q
  | 0 => Nat.le_refl _
  | q + 1 => by have := madeTo_len lists s h q; have := madeL_len (q : Int) s (lists.getD q []) 0; have := h q; rw [madeTo, List.length_append]; omega
theorem rowSt_len (lists : List (List Int)) (s : Int) (h : ∀ q, (lists.getD q []).length ≤ 13) (q k : Nat) : (rowSt lists q k s).length ≤ 13 * q + 13 := by
  have h1 := madeTo_len lists s h q
  have h2 := madeL_len (q : Int) s ((lists.getD q []).drop k) k
  have h3 := h q
  rw [List.length_drop] at h2
  unfold rowSt; rw [List.length_append]; omega
theorem rowsSt_len (lists : List (List Int)) (h : ∀ q, (lists.getD q []).length ≤ 13) (q k j : Nat) : ((rowsSt lists q k).getD j []).length ≤ 13 * q + 13 := by
  by_cases hj : j < 4
  · rcases (by omega : j = 0 ∨ j = 1 ∨ j = 2 ∨ j = 3) with rfl | rfl | rfl | rfl <;> exact rowSt_len lists _ h q k
  · rw [List.getD_eq_getElem?_getD, List.getElem?_eq_none (by rw [rowsSt_length]; omega)]; simp
theorem listQ_mem (h : Int → Int) (q : Nat) {x : Int} (hx : x ∈ listQ h q) : 0 ≤ x ∧ ∃ c, h c = x := by
  unfold listQ at hx
  obtain ⟨c, hc, rfl⟩ := List.mem_map.1 hx
  rw [List.mem_reverse] at hc
  exact ⟨((mem_ascF h c 13 _).1 hc).2.2, c, rfl⟩
theorem listsTo_getD (h : Int → Int) : ∀ q j, (listsTo h q).getD j [] = if j < q then listQ h j else []
  | 0, j => by simp [listsTo]
  | q + 1, j => by
    rw [listsTo, getD_snoc, listsTo_length, listsTo_getD h q j]
    by_cases h1 : j < q
    · rw [if_pos h1, if_pos h1, if_pos (by omega)]
    · rw [if_neg h1]
      by_cases e : j = q
      · subst e; rw [if_pos rfl, if_pos (by omega)]
      · rw [if_neg e, if_neg (by omega)]
/-- Lists of holders: four, short, of seats. -/
def HL (lists : List (List Int)) : Prop := lists.length = 4 ∧ (∀ q, (lists.getD q []).length ≤ 13) ∧ ∀ q, ∀ x ∈ lists.getD q [], 0 ≤ x ∧ x ≤ 3
theorem HL.of_deal {zss : List (List Int)} (hd : dealB zss = true) : HL (listsTo (holderF zss) 4) := by
  obtain ⟨h4, _, _⟩ := (deal_iff zss).1 hd
  refine ⟨rfl, fun q => ?_, fun q x hx => ?_⟩
  · rw [listsTo_getD]; split
    · exact listQ_len _ _
    · simp
  · rw [listsTo_getD] at hx
    split at hx
    · obtain ⟨h0, c, rfl⟩ := listQ_mem _ _ hx
      have := holdTo_range zss c zss.length
      unfold holderF at h0 ⊢
      omega
    · simp at hx
end

section
open Go.RowKit
set_option maxRecDepth 100000

theorem relF_suit (h : Int → Int) {c : Int} (_h0 : 0 ≤ c) (_h1 : c ≤ 51) : 13 * (c / 13) ≤ relF h c ∧ relF h c ≤ 13 * (c / 13) + 12 := by
  have := ascF_len h (12 - c % 13).toNat (c + 1)
  unfold relF
  omega
theorem relF_div (h : Int → Int) {c : Int} (h0 : 0 ≤ c) (h1 : c ≤ 51) : relF h c / 13 = c / 13 := by have := relF_suit h h0 h1; omega
theorem relF_mono (h : Int → Int) {c d : Int} (h0 : 0 ≤ c) (h1 : d ≤ 51) (hcd : c < d) (hp : 0 ≤ h d) : relF h c < relF h d := by
  by_cases hs : c / 13 = d / 13
  · obtain ⟨j, hj⟩ : ∃ j : Nat, d = c + 1 + j := ⟨(d - c - 1).toNat, by omega⟩
    have hk : (12 - c % 13).toNat = j + ((12 - d % 13).toNat + 1) := by omega
    have e : ascF h (12 - c % 13).toNat (c + 1) = ascF h j (c + 1) ++ (d :: ascF h (12 - d % 13).toNat (d + 1)) := by
      rw [hk, ascF_add, ascF, ← hj, if_pos hp, List.singleton_append]
    unfold relF
    rw [e, hs, List.length_append, List.length_cons]
    omega
  · have a := relF_suit h h0 (by omega : c ≤ 51)
    have b := relF_suit h (by omega : 0 ≤ d) h1
    omega
section
variable {zss : List (List Int)}
theorem deal_mem (hd : dealB zss = true) {c : Int} (hp : 0 ≤ holderF zss c) : 0 ≤ c ∧ c ≤ 51 := by
  obtain ⟨j, hj, _, hm⟩ := holder_mem hp
  obtain ⟨h4, hr, _⟩ := (deal_iff zss).1 hd
  have := ((hand_iff _).1 (hr j (by omega)).1).2.2 c hm
  omega
theorem relRows_getD (j : Nat) : (relRows zss).getD j [] = (zss.getD j []).map (relF (holderF zss)) := by
  unfold relRows
  by_cases hj : j < zss.length
  · rw [getD_row (by simpa using hj), getD_row hj]; simp
  · rw [List.getD_eq_getElem?_getD, List.getD_eq_getElem?_getD, List.getElem?_eq_none (by simpa using hj), List.getElem?_eq_none (by omega)]; rfl
theorem pair_map {f : Int → Int} : ∀ {l : List Int}, l.Pairwise (· < ·) → (∀ a ∈ l, ∀ b ∈ l, a < b → f a < f b) → (l.map f).Pairwise (· < ·)
  | [], _, _ => List.Pairwise.nil
  | x :: l, h, hf => by
    rw [List.map_cons, List.pairwise_cons]
    refine ⟨fun y hy => ?_, pair_map (List.pairwise_cons.1 h).2 fun a ha b hb => hf a (by simp [ha]) b (by simp [hb])⟩
    obtain ⟨z, hz, rfl⟩ := List.mem_map.1 hy
    exact hf x (by simp) z (by simp [hz]) ((List.pairwise_cons.1 h).1 z hz)
theorem nodup_map {f : Int → Int} : ∀ {l : List Int}, l.Nodup → (∀ a ∈ l, ∀ b ∈ l, f a = f b → a = b) → (l.map f).Nodup
  | [], _, _ => List.nodup_nil
  | x :: l, h, hf => by
    rw [List.map_cons, List.nodup_cons]
    refine ⟨fun hx => ?_, nodup_map (List.nodup_cons.1 h).2 fun a ha b hb => hf a (by simp [ha]) b (by simp [hb])⟩
    obtain ⟨z, hz, e⟩ := List.mem_map.1 hx
    have := hf z (by simp [hz]) x (by simp) e
    subst this
    exact (List.nodup_cons.1 h).1 hz
theorem relF_inj (hd : dealB zss = true) {a b : Int} (ha : 0 ≤ holderF zss a) (hb : 0 ≤ holderF zss b) (e : relF (holderF zss) a = relF (holderF zss) b) : a = b := by
  have a1 := deal_mem hd ha
  have b1 := deal_mem hd hb
  rcases (by omega : a < b ∨ a = b ∨ b < a) with h | h | h
  · have := relF_mono (holderF zss) a1.1 b1.2 h hb; omega
  · exact h
  · have := relF_mono (holderF zss) b1.1 a1.2 h ha; omega
theorem row_held (hd : dealB zss = true) {j : Nat} (hj : j < 4) {x : Int} (hx : x ∈ zss.getD j []) : holderF zss x = (j : Int) := by
  obtain ⟨h4, _, hn⟩ := (deal_iff zss).1 hd
  exact holder_at hn (by omega) hx
theorem rel_deal (hd : dealB zss = true) : dealB (relRows zss) = true := by
  obtain ⟨h4, hr, hn⟩ := (deal_iff zss).1 hd
  refine (deal_iff _).2 ⟨by simpa [relRows] using h4, fun j hj => ?_, ?_⟩
  · have hh := (hand_iff _).1 (hr j hj).1
    refine ⟨(hand_iff _).2 ⟨?_, ?_, ?_⟩, ?_⟩
    · rw [relRows_getD, List.length_map]; exact hh.1
    · rw [relRows_getD]
      refine pair_map hh.2.1 fun a ha b hb hab => ?_
      have a1 := hh.2.2 a ha
      have b1 := hh.2.2 b hb
      exact relF_mono _ (by omega) (by omega) hab (by rw [row_held hd hj hb]; omega)
    · intro x hx
      rw [relRows_getD] at hx
      obtain ⟨c, hc, rfl⟩ := List.mem_map.1 hx
      have c1 := hh.2.2 c hc
      have := relF_suit (holderF zss) (c := c) (by omega) (by omega)
      omega
    · rw [relRows_getD, relRows_getD, List.length_map, List.length_map]; exact (hr j hj).2
  · have e : (relRows zss).flatten = zss.flatten.map (relF (holderF zss)) := by unfold relRows; rw [List.map_flatten]
    rw [e]
    exact nodup_map hn fun a ha b hb => relF_inj hd (holder_iff.2 ha) (holder_iff.2 hb)
theorem rel_holder (hd : dealB zss = true) {c : Int} (hp : 0 ≤ holderF zss c) : holderF (relRows zss) (relF (holderF zss) c) = holderF zss c := by
  obtain ⟨j, hj, e, hm⟩ := holder_mem hp
  have h4 := ((deal_iff zss).1 hd).1
  rw [e]
  refine row_held (rel_deal hd) (by omega) ?_
  rw [relRows_getD]
  exact List.mem_map.2 ⟨c, hm, rfl⟩
theorem rel_play (hd : dealB zss = true) (x : Int) : 0 ≤ holderF (relRows zss) x ↔ ∃ c, 0 ≤ holderF zss c ∧ relF (holderF zss) c = x := by
  constructor
  · intro h
    obtain ⟨j, hj, _, hm⟩ := holder_mem h
    have h4 := ((deal_iff _).1 (rel_deal hd)).1
    rw [relRows_getD] at hm
    obtain ⟨c, hc, rfl⟩ := List.mem_map.1 hm
    exact ⟨c, by rw [row_held hd (by omega) hc]; omega, rfl⟩
  · rintro ⟨c, hc, rfl⟩
    rw [rel_holder hd hc]; exact hc
theorem rel_suit (hd : dealB zss = true) (q : Nat) : suitA (holderF (relRows zss)) q = (suitA (holderF zss) q).map (relF (holderF zss)) := by
  have hs : (suitA (holderF zss) q).Pairwise (· < ·) := ascF_strict _ _ _
  refine strict_eq _ _ (ascF_strict _ _ _) (pair_map hs fun a ha b hb hab => ?_) fun x => ?_
  · have a1 := (mem_ascF _ _ _ _).1 ha
    have b1 := (mem_ascF _ _ _ _).1 hb
    have c1 := deal_mem hd a1.2.2
    have d1 := deal_mem hd b1.2.2
    exact relF_mono _ c1.1 d1.2 hab b1.2.2
  · unfold suitA
    rw [mem_ascF, rel_play hd, List.mem_map]
    constructor
    · rintro ⟨h1, h2, c, hc, rfl⟩
      have c1 := deal_mem hd hc
      have := relF_div (holderF zss) c1.1 c1.2
      exact ⟨c, (mem_ascF _ _ _ _).2 ⟨by omega, by omega, hc⟩, rfl⟩
    · rintro ⟨c, hc, rfl⟩
      have hm := (mem_ascF _ _ _ _).1 hc
      have c1 := deal_mem hd hm.2.2
      have := relF_div (holderF zss) c1.1 c1.2
      exact ⟨by omega, by omega, c, hm.2.2, rfl⟩
theorem rel_lists (hd : dealB zss = true) : ∀ q, listsTo (holderF (relRows zss)) q = listsTo (holderF zss) q
  | 0 => rfl
  | q + 1 => by
    rw [listsTo, listsTo, rel_lists hd q]
    congr 2
    unfold listQ
    rw [rel_suit hd, ← List.map_reverse, List.map_map]
    refine List.map_congr_left fun c hc => ?_
    exact rel_holder hd ((mem_ascF _ _ _ _).1 (List.mem_reverse.1 hc)).2.2
/-- The relative form is its own. -/
theorem rel_rel (hd : dealB zss = true) : relRows (relRows zss) = relRows zss := by
  rw [← made_rel (rel_deal hd), rel_lists hd, made_rel hd]
end
/-! ### Runs of a list whose elements are replaced -/
theorem startsP_map {p p' : Int → Bool} {f : Int → Int} : ∀ {l : List Int}, (∀ x ∈ l, p (f x) = p' x) → startsP p (l.map f) = startsP p' l
  | [], _ => rfl
  | x :: l, h => h x (by simp)
theorem pushLast_map {f : Int → Int} (gs : List (List Int)) (c : Int) : pushLast (gs.map (List.map f)) (f c) = (pushLast gs c).map (List.map f) := by
  unfold pushLast
  rw [List.length_map, List.map_set, List.map_append]
  congr 2
  rw [List.getD_eq_getElem?_getD, List.getD_eq_getElem?_getD, List.getElem?_map]
  cases gs[gs.length - 1]? <;> rfl
theorem runs_map {p p' : Int → Bool} {f : Int → Int} : ∀ {l : List Int}, (∀ x ∈ l, p (f x) = p' x) → runsR p (l.map f) = (runsR p' l).map (List.map f)
  | [], _ => rfl
  | x :: l, h => by
    have ih := runs_map (l := l) fun y hy => h y (by simp [hy])
    have hs := startsP_map (l := l) (p := p) (p' := p') (f := f) fun y hy => h y (by simp [hy])
    rw [List.map_cons, runsR, runsR, ih, hs, h x (by simp)]
    split
    · split
      · exact pushLast_map _ _
      · simp
    · rfl
theorem rel_runs {zss : List (List Int)} (hd : dealB zss = true) (s : Int) : ∀ q, runsTo (holderF (relRows zss)) s q = (runsTo (holderF zss) s q).map (List.map (relF (holderF zss)))
  | 0 => rfl
  | q + 1 => by
    rw [runsTo, runsTo, rel_runs hd s q, List.map_append]
    congr 1
    unfold runsS
    rw [rel_suit hd, ← List.map_reverse]
    refine runs_map fun c hc => ?_
    rw [rel_holder hd ((mem_ascF _ _ _ _).1 (List.mem_reverse.1 hc)).2.2]
end

section
open Go.RowKit
set_option maxRecDepth 100000

/-- Lists of holders: four, short, of seats. -/
def rowH (l : List Int) : Bool := decide (l.length ≤ 13) && l.all fun x => inB x 0 3
def hlB (L : List (List Int)) : Bool := decide (L.length = 4) && (rowH (L.getD 0 []) && (rowH (L.getD 1 []) && (rowH (L.getD 2 []) && rowH (L.getD 3 []))))
theorem rowH_iff (l : List Int) : rowH l = true ↔ l.length ≤ 13 ∧ ∀ x ∈ l, 0 ≤ x ∧ x ≤ 3 := by
  unfold rowH
  rw [Bool.and_eq_true, decide_eq_true_iff, List.all_eq_true]
  constructor
  · rintro ⟨h1, h2⟩; exact ⟨h1, fun x hx => by have := h2 x hx; simp [inB] at this; omega⟩
  · rintro ⟨h1, h2⟩; exact ⟨h1, fun x hx => inB_true (h2 x hx)⟩
theorem hlB_len {L : List (List Int)} (h : L.length ≠ 4) : hlB L = false := by simp [hlB, h]
theorem hlB_row {L : List (List Int)} {q : Nat} (hq : q < 4) (h : rowH (L.getD q []) = false) : hlB L = false := by
  unfold hlB
  rcases (by omega : q = 0 ∨ q = 1 ∨ q = 2 ∨ q = 3) with rfl | rfl | rfl | rfl <;> rw [h] <;> simp
theorem hlB_yes {L : List (List Int)} (h4 : L.length = 4) (h : ∀ q, q < 4 → rowH (L.getD q []) = true) : hlB L = true := by
  unfold hlB
  rw [h 0 (by omega), h 1 (by omega), h 2 (by omega), h 3 (by omega)]; simp [h4]
theorem hlB_HL {L : List (List Int)} (h : hlB L = true) : HL L := by
  unfold hlB at h
  simp only [Bool.and_eq_true, decide_eq_true_iff] at h
  obtain ⟨h4, h0, h1, h2, h3⟩ := h
  have hr : ∀ q, q < 4 → rowH (L.getD q []) = true := fun q hq => by
    rcases (by omega : q = 0 ∨ q = 1 ∨ q = 2 ∨ q = 3) with rfl | rfl | rfl | rfl
    · exact h0
    · exact h1
    · exact h2
    · exact h3
  have hn : ∀ q, ¬ q < 4 → L.getD q [] = [] := fun q hq => by rw [List.getD_eq_getElem?_getD, List.getElem?_eq_none (by omega)]; rfl
  refine ⟨h4, fun q => ?_, fun q x hx => ?_⟩
  · by_cases hq : q < 4
    · exact ((rowH_iff _).1 (hr q hq)).1
    · rw [hn q hq]; simp
  · by_cases hq : q < 4
    · exact ((rowH_iff _).1 (hr q hq)).2 x hx
    · rw [hn q hq] at hx; simp at hx
theorem mem_madeL (q s x : Int) : ∀ (l : List Int) (i : Int), x ∈ madeL q s l i ↔ ∃ j : Nat, j < l.length ∧ l.getD j 0 = s ∧ x = 13 * q + 12 - (i + j)
  | [], i => by simp [madeL]
  | y :: l, i => by
    rw [madeL, List.mem_append, mem_madeL q s x l (i + 1)]
    constructor
    · rintro (⟨j, h1, h2, h3⟩ | h)
      · exact ⟨j + 1, by simpa using h1, by simpa using h2, by rw [h3]; omega⟩
      · split at h
        · rename_i e
          exact ⟨0, by simp, by simpa using e, by simpa using h⟩
        · simp at h
    · rintro ⟨j, h1, h2, h3⟩
      cases j with
      | zero =>
        refine .inr ?_
        rw [if_pos (by simpa using h2)]
        simpa using h3
      | succ j => exact .inl ⟨j, by simpa using h1, by simpa using h2, by rw [h3]; omega⟩
theorem madeL_strict (q s : Int) : ∀ (l : List Int) (i : Int), (madeL q s l i).Pairwise (· < ·)
  | [], i => List.Pairwise.nil
  | y :: l, i => by
    rw [madeL, List.pairwise_append]
    refine ⟨madeL_strict q s l (i + 1), by split <;> simp, fun a ha b hb => ?_⟩
    obtain ⟨j, _, _, h3⟩ := (mem_madeL q s a l (i + 1)).1 ha
    split at hb
    · simp at hb; omega
    · simp at hb
theorem mem_madeTo (L : List (List Int)) (s x : Int) : ∀ k, x ∈ madeTo L s k ↔ ∃ q j : Nat, q < k ∧ j < (L.getD q []).length ∧ (L.getD q []).getD j 0 = s ∧ x = 13 * (q : Int) + 12 - (j : Int)
  | 0 => by simp [madeTo]
  | k + 1 => by
    rw [madeTo, List.mem_append, mem_madeTo L s x k, mem_madeL]
    constructor
    · rintro (⟨q, j, h1, h2⟩ | ⟨j, h1, h2, h3⟩)
      · exact ⟨q, j, by omega, h2⟩
      · exact ⟨k, j, by omega, h1, h2, by rw [h3]; omega⟩
    · rintro ⟨q, j, h1, h2, h3, h4⟩
      by_cases e : q = k
      · subst e; exact .inr ⟨j, h2, h3, by rw [h4]; omega⟩
      · exact .inl ⟨q, j, by omega, h2, h3, h4⟩
theorem madeTo_strict {L : List (List Int)} (s : Int) (h : ∀ q, (L.getD q []).length ≤ 13) : ∀ k, (madeTo L s k).Pairwise (· < ·)
  | 0 => List.Pairwise.nil
  | k + 1 => by
    rw [madeTo, List.pairwise_append]
    refine ⟨madeTo_strict s h k, madeL_strict _ _ _ _, fun a ha b hb => ?_⟩
    obtain ⟨q, j, h1, h2, _, h4⟩ := (mem_madeTo L s a k).1 ha
    obtain ⟨i, g1, _, g3⟩ := (mem_madeL _ s b _ 0).1 hb
    have := h k
    omega
theorem madeRows_getD (L : List (List Int)) {s : Nat} (hs : s < 4) : (madeRows L).getD s [] = madeTo L (s : Int) 4 := by
  rcases (by omega : s = 0 ∨ s = 1 ∨ s = 2 ∨ s = 3) with rfl | rfl | rfl | rfl <;> rfl
theorem nodup_app {a b : List Int} (ha : a.Nodup) (hb : b.Nodup) (h : ∀ x ∈ a, x ∉ b) : (a ++ b).Nodup := List.nodup_append.2 ⟨ha, hb, fun x hx _ hy e => h x hx (e ▸ hy)⟩
/-- The deal of given holders is one just if the seats occur equally often. -/
theorem made_deal {L : List (List Int)} (hL : HL L) : dealB (madeRows L) = true ↔ ∀ s : Nat, s < 4 → (madeTo L (s : Int) 4).length = (madeTo L 0 4).length ∧ (madeTo L (s : Int) 4).length ≤ 13 := by
  obtain ⟨h4, h13, h03⟩ := hL
  have hst := fun s => madeTo_strict (L := L) s h13 4
  have hdis : ∀ s t : Int, s ≠ t → ∀ x ∈ madeTo L s 4, x ∉ madeTo L t 4 := fun s t hst x hx hx' => by
    obtain ⟨q, j, h1, h2, h3, h5⟩ := (mem_madeTo L s x 4).1 hx
    obtain ⟨q', j', g1, g2, g3, g5⟩ := (mem_madeTo L t x 4).1 hx'
    have e1 := h13 q
    have e2 := h13 q'
    obtain rfl : q = q' := by omega
    obtain rfl : j = j' := by omega
    exact hst (h3.symm.trans g3)
  constructor
  · intro h s hs
    obtain ⟨_, hr, _⟩ := (deal_iff _).1 h
    have := hr s hs
    rw [madeRows_getD L hs, madeRows_getD L (by omega : 0 < 4)] at this
    exact ⟨this.2, hand_len this.1⟩
  · intro h
    refine (deal_iff _).2 ⟨rfl, fun s hs => ?_, ?_⟩
    · rw [madeRows_getD L hs, madeRows_getD L (by omega : 0 < 4)]
      refine ⟨(hand_iff _).2 ⟨(h s hs).2, hst _, fun x hx => ?_⟩, (h s hs).1⟩
      obtain ⟨q, j, h1, h2, _, h5⟩ := (mem_madeTo L _ x 4).1 hx
      have := h13 q
      omega
    · have e : (madeRows L).flatten = madeTo L 0 4 ++ (madeTo L 1 4 ++ (madeTo L 2 4 ++ madeTo L 3 4)) := by simp [madeRows]
      rw [e]
      refine nodup_app (strict_nodup (hst 0)) (nodup_app (strict_nodup (hst 1)) (nodup_app (strict_nodup (hst 2)) (strict_nodup (hst 3)) (hdis 2 3 (by omega))) ?_) ?_
      · intro x hx
        rw [List.mem_append]
        rintro (q | q)
        · exact hdis 1 2 (by omega) x hx q
        · exact hdis 1 3 (by omega) x hx q
      · intro x hx
        rw [List.mem_append, List.mem_append]
        rintro (q | q | q)
        · exact hdis 0 1 (by omega) x hx q
        · exact hdis 0 2 (by omega) x hx q
        · exact hdis 0 3 (by omega) x hx q
def dohE (L : List (List Int)) : Int := if hlB L then (if dealB (madeRows L) then 0 else 5) else 1
def dohV (L : List (List Int)) : List (List Int) := if hlB L && dealB (madeRows L) then madeRows L else []
/-! ### How often each seat has come up, behind k holders of the suit q -/
def occ (s : Int) (l : List Int) : Nat := l.countP fun x => decide (x = s)
theorem madeL_occ (q s : Int) : ∀ (l : List Int) (i : Int), (madeL q s l i).length = occ s l
  | [], _ => rfl
  | y :: l, i => by
    rw [madeL, List.length_append, madeL_occ q s l (i + 1)]
    unfold occ
    rw [List.countP_cons]
    by_cases e : y = s <;> simp [e]
def cntH (L : List (List Int)) (q k : Nat) (s : Int) : Nat := (madeTo L s q).length + occ s ((L.getD q []).take k)
theorem cntH_zero (L : List (List Int)) (s : Int) : cntH L 0 0 s = 0 := by simp [cntH, madeTo, occ]
theorem cntH_next (L : List (List Int)) (q : Nat) (s : Int) : cntH L q (L.getD q []).length s = cntH L (q + 1) 0 s := by
  unfold cntH
  rw [List.take_length, madeTo, List.length_append, madeL_occ]
  simp [occ]
theorem cntH_step (L : List (List Int)) {q k : Nat} (hk : k < (L.getD q []).length) (s : Int) : cntH L q (k + 1) s = cntH L q k s + if (L.getD q []).getD k 0 = s then 1 else 0 := by
  unfold cntH occ
  rw [List.take_succ_eq_append_getElem hk, List.countP_append, getD_at _ _ hk]
  rw [List.countP_cons]
  by_cases e : (L.getD q [])[k] = s
  · rw [if_pos e, if_pos (by simpa using e)]; simp; omega
  · rw [if_neg e, if_neg (by simpa using e)]; simp
theorem cntH_all (L : List (List Int)) (s : Int) : cntH L 4 0 s = (madeTo L s 4).length := by simp [cntH, occ]
theorem cntH_le {L : List (List Int)} (h : ∀ q, (L.getD q []).length ≤ 13) (q k : Nat) (s : Int) : cntH L q k s ≤ 13 * q + 13 := by
  have h1 := madeTo_len L s h q
  have h2 : occ s ((L.getD q []).take k) ≤ ((L.getD q []).take k).length := List.countP_le_length
  have h3 := h q
  rw [List.length_take] at h2
  unfold cntH; omega
def cntL (L : List (List Int)) (q k : Nat) : List Int := [(cntH L q k 0 : Int), (cntH L q k 1 : Int), (cntH L q k 2 : Int), (cntH L q k 3 : Int)]
theorem cntL_at (L : List (List Int)) (q k : Nat) {t : Nat} (ht : t < 4) : (cntL L q k).getD t 0 = (cntH L q k (t : Int) : Int) := by
  rcases (by omega : t = 0 ∨ t = 1 ∨ t = 2 ∨ t = 3) with rfl | rfl | rfl | rfl <;> rfl
theorem cntL_step (L : List (List Int)) {q k t : Nat} (hk : k < (L.getD q []).length) (ht : t < 4) (hx : (L.getD q []).getD k 0 = (t : Int)) : cntL L q (k + 1) = (cntL L q k).set t ((cntH L q k (t : Int) : Int) + 1) := by
  unfold cntL
  rw [cntH_step L hk 0, cntH_step L hk 1, cntH_step L hk 2, cntH_step L hk 3, hx]
  rcases (by omega : t = 0 ∨ t = 1 ∨ t = 2 ∨ t = 3) with rfl | rfl | rfl | rfl <;> simp
end

section
open Go.RowKit
set_option maxRecDepth 100000

/-! ### The allowed lists -/
theorem inB_lim {z l u : Int} (h : inB z l u = true) : l ≤ z ∧ z ≤ u := by unfold inB at h; simpa using h
def okO (strain : Int) (to : List Int) : Bool := orderB to && (decide (strain = 4) || decide (to.getD strain.toNat 0 = strain))
def ordN (k : Nat) : List Int := [((k / 64 : Nat) : Int), ((k / 16 % 4 : Nat) : Int), ((k / 4 % 4 : Nat) : Int), ((k % 4 : Nat) : Int)]
def ordTo (strain : Int) : Nat → List (List Int)
  | 0 => []
  | k + 1 => ordTo strain k ++ if okO strain (ordN k) then [ordN k] else []
def ordS (strain : Int) : List (List Int) := ordTo strain 256
def ordV (strain : Int) : List (List Int) := if inB strain 0 4 then ordS strain else []
theorem mem_ordTo (strain : Int) (to : List Int) : ∀ n, to ∈ ordTo strain n ↔ ∃ k, k < n ∧ to = ordN k ∧ okO strain to = true
  | 0 => by simp [ordTo]
  | n + 1 => by
    rw [ordTo, List.mem_append, mem_ordTo strain to n]
    constructor
    · rintro (⟨k, h1, h2⟩ | h)
      · exact ⟨k, by omega, h2⟩
      · split at h
        · rename_i e
          obtain rfl := List.mem_singleton.1 h
          exact ⟨n, by omega, rfl, e⟩
        · simp at h
    · rintro ⟨k, h1, h2, h3⟩
      by_cases e : k = n
      · subst e
        subst h2
        refine .inr ?_
        rw [if_pos h3]; exact List.mem_singleton.2 rfl
      · exact .inl ⟨k, by omega, h2, h3⟩
theorem order_num {to : List Int} (h : orderB to = true) : ∃ k, k < 256 ∧ to = ordN k := by
  obtain ⟨h4, hr⟩ := order_range h
  match to, h4 with
  | [a, b, c, d], _ =>
    have ha := hr 0 (by omega)
    have hb := hr 1 (by omega)
    have hc := hr 2 (by omega)
    have hd := hr 3 (by omega)
    simp at ha hb hc hd
    refine ⟨64 * a.toNat + 16 * b.toNat + 4 * c.toNat + d.toNat, by omega, ?_⟩
    unfold ordN
    simp only [List.cons.injEq, and_true]
    refine ⟨?_, ?_, ?_, ?_⟩ <;> omega
theorem mem_ordS (strain : Int) (to : List Int) : to ∈ ordS strain ↔ okO strain to = true := by
  unfold ordS
  rw [mem_ordTo]
  constructor
  · rintro ⟨k, _, _, h⟩; exact h
  · intro h
    obtain ⟨k, hk, e⟩ := order_num (show orderB to = true by unfold okO at h; rw [Bool.and_eq_true] at h; exact h.1)
    exact ⟨k, hk, e, h⟩
theorem okO_order {strain : Int} {to : List Int} (h : okO strain to = true) : orderB to = true := by
  unfold okO at h; rw [Bool.and_eq_true] at h; exact h.1
theorem ordTo_len (strain : Int) : ∀ k, (ordTo strain k).length ≤ k
  | 0 => Nat.le_refl _
  | k + 1 => by have := ordTo_len strain k; rw [ordTo, List.length_append]; split <;> simp <;> omega
theorem ordTo_four (strain : Int) (k j : Nat) : ((ordTo strain k).getD j []).length ≤ 4 := by
  by_cases hj : j < (ordTo strain k).length
  · rw [getD_row hj]
    obtain ⟨_, _, e, _⟩ := (mem_ordTo strain _ k).1 (List.getElem_mem hj)
    rw [e]; simp [ordN]
  · rw [List.getD_eq_getElem?_getD, List.getElem?_eq_none (by omega)]; simp
theorem ordS_count : ∀ s : Fin 5, (ordS (s.val : Int)).length = if s.val = 4 then 24 else 6 := by decide +kernel
theorem ordS_length {strain : Int} (h : inB strain 0 4 = true) : (ordS strain).length = if strain = 4 then 24 else 6 := by
  have hr := inB_lim h
  obtain ⟨k, rfl⟩ : ∃ k : Nat, strain = k := ⟨strain.toNat, by omega⟩
  have := ordS_count ⟨k, by omega⟩
  rw [this]
  by_cases e : k = 4
  · subst e; rfl
  · rw [if_neg (by simpa using e), if_neg (by omega)]

/-! ### .. as the program completes them -/
def keepT (strain : Int) (place k : Nat) : Bool := (decide ((place : Int) = strain)) == (decide ((k : Int) = strain))
def stepO (strain : Int) (place k : Nat) (order : List Int) : Bool := keepT strain place k && !hasB (order.take place) (k : Int)
def compS (strain : Int) (place : Nat) (rec : List Int → List (List Int)) (order : List Int) : Nat → List (List Int)
  | 0 => []
  | k + 1 => compS strain place rec order k ++ if stepO strain place k order then rec (order.set place (k : Int)) else []
def compL (strain : Int) : Nat → Nat → List Int → List (List Int)
  | 0, _, order => [order]
  | d + 1, place, order => compS strain place (compL strain d (place + 1)) order 4
theorem comp_all : ∀ s : Fin 5, compL (s.val : Int) 4 0 [0, 0, 0, 0] = ordS (s.val : Int) := by decide +kernel
theorem comp_ord {strain : Int} (h : inB strain 0 4 = true) : compL strain 4 0 [0, 0, 0, 0] = ordS strain := by
  have hr := inB_lim h
  obtain ⟨k, rfl⟩ : ∃ k : Nat, strain = k := ⟨strain.toNat, by omega⟩
  exact comp_all ⟨k, by omega⟩

/-! ### They are a group -/
theorem mem_idx {l : List Int} {x : Int} (h : x ∈ l) : ∃ i, i < l.length ∧ l.getD i 0 = x := by
  obtain ⟨i, hi, rfl⟩ := List.mem_iff_getElem.1 h
  exact ⟨i, hi, getD_at _ _ hi⟩
theorem orderB_iff {to : List Int} : orderB to = true ↔ to.length = 4 ∧ ∀ v : Nat, v < 4 → ∃ i, i < 4 ∧ to.getD i 0 = (v : Int) := by
  unfold orderB
  simp only [hasB, Bool.and_eq_true, decide_eq_true_eq]
  constructor
  · rintro ⟨h4, h0, h1, h2, h3⟩
    refine ⟨h4, fun v hv => ?_⟩
    have : (v : Int) ∈ to := by rcases (by omega : v = 0 ∨ v = 1 ∨ v = 2 ∨ v = 3) with rfl | rfl | rfl | rfl <;> assumption
    obtain ⟨i, hi, e⟩ := mem_idx this
    exact ⟨i, by omega, e⟩
  · rintro ⟨h4, h⟩
    have hm : ∀ v : Nat, v < 4 → (v : Int) ∈ to := fun v hv => by
      obtain ⟨i, hi, e⟩ := h v hv
      rw [← e, getD_at _ _ (by omega)]; exact List.getElem_mem _
    exact ⟨h4, hm 0 (by omega), hm 1 (by omega), hm 2 (by omega), hm 3 (by omega)⟩
def cmpO (t u : List Int) : List Int := [t.getD (u.getD 0 0).toNat 0, t.getD (u.getD 1 0).toNat 0, t.getD (u.getD 2 0).toNat 0, t.getD (u.getD 3 0).toNat 0]
theorem cmpO_at (t u : List Int) {i : Nat} (hi : i < 4) : (cmpO t u).getD i 0 = t.getD (u.getD i 0).toNat 0 := by
  rcases (by omega : i = 0 ∨ i = 1 ∨ i = 2 ∨ i = 3) with rfl | rfl | rfl | rfl <;> rfl
theorem cmpO_order {t u : List Int} (ht : orderB t = true) (hu : orderB u = true) : orderB (cmpO t u) = true := by
  refine orderB_iff.2 ⟨rfl, fun v hv => ?_⟩
  obtain ⟨j, hj, e⟩ := (orderB_iff.1 ht).2 v hv
  obtain ⟨i, hi, e'⟩ := (orderB_iff.1 hu).2 j hj
  exact ⟨i, hi, by rw [cmpO_at _ _ hi, e']; simpa using e⟩
theorem okO_cases {strain : Int} {to : List Int} (hs : inB strain 0 4 = true) : okO strain to = true ↔ orderB to = true ∧ ∀ s : Nat, s < 4 → strain = (s : Int) → to.getD s 0 = (s : Int) := by
  have hr := inB_lim hs
  unfold okO
  simp only [Bool.and_eq_true, Bool.or_eq_true, decide_eq_true_eq]
  constructor
  · rintro ⟨h, h'⟩
    refine ⟨h, fun s hs e => ?_⟩
    subst e
    rcases h' with h' | h'
    · omega
    · simpa using h'
  · rintro ⟨h, h'⟩
    refine ⟨h, ?_⟩
    by_cases e : strain = 4
    · exact .inl e
    · obtain ⟨s, rfl⟩ : ∃ s : Nat, strain = s := ⟨strain.toNat, by omega⟩
      exact .inr (by simpa using h' s (by omega) rfl)
theorem okO_cmp {strain : Int} {t u : List Int} (hs : inB strain 0 4 = true) (ht : okO strain t = true) (hu : okO strain u = true) : okO strain (cmpO t u) = true := by
  rw [okO_cases hs] at ht hu ⊢
  refine ⟨cmpO_order ht.1 hu.1, fun s h4 e => ?_⟩
  rw [cmpO_at _ _ h4, hu.2 s h4 e]
  simpa using ht.2 s h4 e
theorem okO_back {strain : Int} {t : List Int} (hs : inB strain 0 4 = true) (ht : okO strain t = true) : okO strain (backTo t 4) = true := by
  rw [okO_cases hs] at ht ⊢
  refine ⟨back_order ht.1, fun s h4 e => ?_⟩
  have := back_at ht.1 h4
  rw [ht.2 s h4 e] at this
  simpa using this
theorem okO_same {strain : Int} (hs : inB strain 0 4 = true) : okO strain [0, 1, 2, 3] = true := by
  rw [okO_cases hs]
  refine ⟨by decide, fun s h4 _ => ?_⟩
  rcases (by omega : s = 0 ∨ s = 1 ∨ s = 2 ∨ s = 3) with rfl | rfl | rfl | rfl <;> rfl
theorem newSuit_cmp {t u : List Int} (hu : orderB u = true) {x : Int} (h0 : 0 ≤ x) (h1 : x ≤ 51) : newSuit (cmpO t u) x = newSuit t (newSuit u x) := by
  obtain ⟨s, hs⟩ : ∃ s : Nat, x / 13 = s := ⟨(x / 13).toNat, by omega⟩
  have hs4 : s < 4 := by omega
  have hb := (order_range hu).2 s hs4
  have e1 : newSuit u x = 13 * u.getD s 0 + x % 13 := by unfold newSuit; rw [hs]; simp
  have e2 : newSuit (cmpO t u) x = 13 * (cmpO t u).getD s 0 + x % 13 := by unfold newSuit; rw [hs]; simp
  rw [e2, cmpO_at _ _ hs4, e1]
  unfold newSuit
  have e3 : (13 * u.getD s 0 + x % 13) / 13 = u.getD s 0 := by omega
  have e4 : (13 * u.getD s 0 + x % 13) % 13 = x % 13 := by omega
  rw [e3, e4]
theorem newSuit_same {x : Int} (h0 : 0 ≤ x) (h1 : x ≤ 51) : newSuit [0, 1, 2, 3] x = x := by
  obtain ⟨s, hs⟩ : ∃ s : Nat, x / 13 = s := ⟨(x / 13).toNat, by omega⟩
  have hs4 : s < 4 := by omega
  unfold newSuit
  rw [hs]
  have : ([0, 1, 2, 3] : List Int).getD (s : Int).toNat 0 = (s : Int) := by
    rcases (by omega : s = 0 ∨ s = 1 ∨ s = 2 ∨ s = 3) with rfl | rfl | rfl | rfl <;> rfl
  rw [this]; omega

/-! ### Deals in other suits -/
def permD (to : List Int) (zss : List (List Int)) : List (List Int) := mapD (newSuit to) zss
theorem permD_deal {to : List Int} {zss : List (List Int)} (ho : orderB to = true) (hd : dealB zss = true) : dealB (permD to zss) = true := mapD_deal (newSuit_inj ho) (newSuit_onto ho) hd
theorem permD_length (to : List Int) (zss : List (List Int)) : (permD to zss).length = zss.length := mapD_length _ _
theorem permD_row (to : List Int) (zss : List (List Int)) (j : Nat) : ((permD to zss).getD j []).length = (zss.getD j []).length := by
  by_cases hj : j < zss.length
  · unfold permD; rw [mapD_getD _ _ _ hj, mapH_length]
  · rw [List.getD_eq_getElem?_getD, List.getD_eq_getElem?_getD, List.getElem?_eq_none (by rw [permD_length]; omega), List.getElem?_eq_none (by omega)]
theorem permV_is {to : List Int} {zss : List (List Int)} (ho : orderB to = true) (hd : dealB zss = true) : permV zss to = permD to zss := by
  simp [permV, permD, hd, ho, perm_mapD ((deal_iff zss).1 hd).1]
theorem permE_is {to : List Int} {zss : List (List Int)} (ho : orderB to = true) (hd : dealB zss = true) : permE zss to = 0 := by simp [permE, hd, ho]
theorem deal_hand {zss : List (List Int)} (hd : dealB zss = true) {j : Nat} (hj : j < 4) : handB (zss.getD j []) = true := (((deal_iff zss).1 hd).2.1 j hj).1
theorem permD_cmp {t u : List Int} {zss : List (List Int)} (ht : orderB t = true) (hu : orderB u = true) (hd : dealB zss = true) : permD t (permD u zss) = permD (cmpO t u) zss := by
  have h4 := ((deal_iff zss).1 hd).1
  refine rows_eq (by simp only [permD_length]) fun j hj => ?_
  rw [permD_length] at hj
  have hh := deal_hand hd (by omega : j < 4)
  unfold permD
  rw [mapD_getD _ _ _ (by rw [mapD_length]; exact hj), mapD_getD _ _ _ hj, mapD_getD _ _ _ hj]
  refine strict_eq _ _ (mapH_strict (newSuit_inj ht) (mapH_hand (newSuit_inj hu) (newSuit_onto hu) hh)) (mapH_strict (newSuit_inj (cmpO_order ht hu)) hh) fun z => ?_
  have hr := ((hand_iff _).1 hh).2.2
  simp only [mem_mapH]
  constructor
  · rintro ⟨y, ⟨x, hx, rfl⟩, rfl⟩
    exact ⟨x, hx, newSuit_cmp hu (hr x hx).1 (hr x hx).2⟩
  · rintro ⟨x, hx, rfl⟩
    exact ⟨_, ⟨x, hx, rfl⟩, (newSuit_cmp hu (hr x hx).1 (hr x hx).2).symm⟩
theorem permD_same {zss : List (List Int)} (hd : dealB zss = true) : permD [0, 1, 2, 3] zss = zss := by
  have h4 := ((deal_iff zss).1 hd).1
  refine rows_eq (permD_length _ _) fun j hj => ?_
  have hh := deal_hand hd (by omega : j < 4)
  unfold permD
  rw [mapD_getD _ _ _ hj]
  have hr := ((hand_iff _).1 hh).2
  refine strict_eq _ _ (mapH_strict (newSuit_inj (by decide)) hh) hr.1 fun z => ?_
  rw [mem_mapH]
  constructor
  · rintro ⟨y, hy, rfl⟩; rw [newSuit_same (hr.2 y hy).1 (hr.2 y hy).2]; exact hy
  · intro hz; exact ⟨z, hz, newSuit_same (hr.2 z hz).1 (hr.2 z hz).2⟩
theorem permD_back {u : List Int} {zss : List (List Int)} (hu : orderB u = true) (hd : dealB zss = true) : permD (backTo u 4) (permD u zss) = zss :=
  mapD_back (newSuit_inj hu) (newSuit_onto hu) (newSuit_inj (back_order hu)) (fun x h0 h1 => back_suit hu x h0 h1) hd

/-! ### .. and their relative forms -/
theorem permD_holder {to : List Int} {zss : List (List Int)} (ho : orderB to = true) (hd : dealB zss = true) {x : Int} (h0 : 0 ≤ x) (h1 : x ≤ 51) : holderF (permD to zss) (newSuit to x) = holderF zss x := by
  obtain ⟨h4, _, hn⟩ := (deal_iff zss).1 hd
  obtain ⟨g4, _, gn⟩ := (deal_iff _).1 (permD_deal ho hd)
  by_cases hp : 0 ≤ holderF zss x
  · obtain ⟨j, hj, e, hm⟩ := holder_mem hp
    rw [e]
    refine holder_at gn (by omega) ?_
    unfold permD
    rw [mapD_getD _ _ _ hj, mem_mapH]
    exact ⟨x, hm, rfl⟩
  · rw [holder_not hp]
    refine holder_not fun hq => hp ?_
    obtain ⟨j, hj, _, hm⟩ := holder_mem hq
    rw [permD_length] at hj
    unfold permD at hm
    rw [mapD_getD _ _ _ hj, mem_mapH] at hm
    obtain ⟨y, hy, e⟩ := hm
    have hr := ((hand_iff _).1 (deal_hand hd (by omega : j < 4))).2.2 y hy
    obtain rfl := newSuit_inj ho y x hr.1 hr.2 h0 h1 e
    exact holder_iff.2 (by rw [List.mem_flatten]; exact ⟨_, by rw [getD_row hj]; exact List.getElem_mem _, hy⟩)
theorem ascF_shift (h h' : Int → Int) (s : Int) : ∀ (j : Nat) (c : Int), (∀ x, c ≤ x → x < c + j → h' (x + s) = h x) → (ascF h' j (c + s)).length = (ascF h j c).length
  | 0, _, _ => rfl
  | j + 1, c, hh => by
    have ih := ascF_shift h h' s j (c + 1) (fun x h1 h2 => hh x (by omega) (by omega))
    have e := hh c (by omega) (by omega)
    rw [show c + 1 + s = c + s + 1 by omega] at ih
    simp only [ascF, e]
    split <;> simp [ih]
theorem relF_perm {to : List Int} {zss : List (List Int)} (ho : orderB to = true) (hd : dealB zss = true) {x : Int} (h0 : 0 ≤ x) (h1 : x ≤ 51) : relF (holderF (permD to zss)) (newSuit to x) = newSuit to (relF (holderF zss) x) := by
  obtain ⟨s, hs⟩ : ∃ s : Nat, x / 13 = s := ⟨(x / 13).toNat, by omega⟩
  have hs4 : s < 4 := by omega
  have hb := (order_range ho).2 s hs4
  have e1 : ∀ y : Int, y / 13 = (s : Int) → newSuit to y = 13 * to.getD s 0 + y % 13 := fun y hy => by unfold newSuit; rw [hy]; simp
  have hrs := relF_suit (holderF zss) h0 h1
  rw [e1 (relF (holderF zss) x) (by omega), e1 x hs]
  generalize to.getD s 0 = t at hb e1
  unfold relF
  have e2 : (13 * t + x % 13) / 13 = t := by omega
  have e3 : (13 * t + x % 13) % 13 = x % 13 := by omega
  rw [e2, e3]
  have e4 := ascF_shift (holderF zss) (holderF (permD to zss)) (13 * t - 13 * (s : Int)) (12 - x % 13).toNat (x + 1) (fun y hy1 hy2 => by
    rw [← permD_holder ho hd (x := y) (by omega) (by omega), e1 y (by omega)]
    congr 1; omega)
  rw [show x + 1 + (13 * t - 13 * (s : Int)) = 13 * t + x % 13 + 1 by omega] at e4
  rw [e4]
  have hl := ascF_len (holderF zss) (12 - x % 13).toNat (x + 1)
  omega
theorem rel_perm {to : List Int} {zss : List (List Int)} (ho : orderB to = true) (hd : dealB zss = true) : relRows (permD to zss) = permD to (relRows zss) := by
  have h4 := ((deal_iff zss).1 hd).1
  have hd' := permD_deal ho hd
  have r1 := rel_deal hd'
  have r2 := rel_deal hd
  have r3 := permD_deal ho r2
  have l1 := ((deal_iff _).1 r1).1
  have l3 := ((deal_iff _).1 r3).1
  refine rows_eq (by omega) fun j hj => ?_
  have hj4 : j < 4 := by omega
  refine strict_eq _ _ ((hand_iff _).1 (deal_hand r1 hj4)).2.1 ((hand_iff _).1 (deal_hand r3 hj4)).2.1 fun z => ?_
  have hr := ((hand_iff _).1 (deal_hand hd hj4)).2.2
  rw [relRows_getD]
  unfold permD
  rw [mapD_getD _ _ _ (show j < zss.length by omega), mapD_getD _ _ _ (show j < (relRows zss).length by rw [show (relRows zss).length = zss.length by simp [relRows]]; omega), mem_mapH, relRows_getD, List.mem_map]
  constructor
  · rintro ⟨y, hy, rfl⟩
    obtain ⟨x, hx, rfl⟩ := (mem_mapH _ _ _).1 hy
    exact ⟨_, List.mem_map.2 ⟨x, hx, rfl⟩, (relF_perm ho hd (hr x hx).1 (hr x hx).2).symm⟩
  · rintro ⟨y, hy, rfl⟩
    obtain ⟨x, hx, rfl⟩ := List.mem_map.1 hy
    exact ⟨_, (mem_mapH _ _ _).2 ⟨x, hx, rfl⟩, relF_perm ho hd (hr x hx).1 (hr x hx).2⟩

/-! ### The order of deals -/
def lexB : List Int → List Int → Bool
  | _, [] => false
  | [], _ :: _ => true
  | x :: a, y :: b => if x = y then lexB a b else decide (x < y)
theorem lex_irrefl : ∀ l, lexB l l = false
  | [] => rfl
  | a :: l => by rw [lexB, if_pos rfl]; exact lex_irrefl l
theorem lex_trans : ∀ {a b c : List Int}, lexB a b = true → lexB b c = true → lexB a c = true
  | _, b, [], _, h => by cases b <;> simp [lexB] at h
  | [], _, _ :: _, _, _ => rfl
  | _ :: _, [], _ :: _, h, _ => by simp [lexB] at h
  | x :: a, y :: b, z :: c, h, k => by
    rw [lexB] at h k ⊢
    split at h
    · rename_i e
      subst e
      split at k
      · rename_i e
        subst e
        rw [if_pos rfl]; exact lex_trans h k
      · rename_i e
        rw [if_neg e]; exact k
    · rename_i e
      split at k
      · rename_i e'
        subst e'
        rw [if_neg e]; exact h
      · rename_i e'
        simp at h k
        rw [if_neg (by omega)]
        simp; omega
theorem lex_tri : ∀ {a b : List Int}, lexB a b = false → lexB b a = false → a = b
  | [], [], _, _ => rfl
  | [], _ :: _, h, _ => by simp [lexB] at h
  | _ :: _, [], _, h => by simp [lexB] at h
  | x :: a, y :: b, h, k => by
    rw [lexB] at h k
    by_cases e : x = y
    · subst e
      rw [if_pos rfl] at h k
      rw [lex_tri h k]
    · rw [if_neg e] at h
      rw [if_neg (fun q => e q.symm)] at k
      simp at h k
      omega
theorem lex_neg {a b c : List Int} (h : lexB a b = false) (k : lexB b c = false) : lexB a c = false := by
  cases q : lexB a c with
  | false => rfl
  | true =>
    cases r : lexB c b with
    | true => rw [lex_trans q r] at h; cases h
    | false =>
      obtain rfl := lex_tri k r
      rw [q] at h; cases h
theorem lex_prefix : ∀ (p x y : List Int), lexB (p ++ x) (p ++ y) = lexB x y
  | [], _, _ => rfl
  | a :: p, x, y => by rw [List.cons_append, List.cons_append, lexB, if_pos rfl]; exact lex_prefix p x y
def lessB (a b : List (List Int)) : Bool := lexB a.flatten b.flatten
def bestL (f : List Int → List (List Int)) (b : List (List Int)) (os : List (List Int)) : List (List Int) := os.foldl (fun b to => if lessB (f to) b then f to else b) b
theorem bestL_snoc (f : List Int → List (List Int)) (b : List (List Int)) (os : List (List Int)) (to : List Int) : bestL f b (os ++ [to]) = if lessB (f to) (bestL f b os) then f to else bestL f b os := by unfold bestL; rw [List.foldl_append]; rfl
theorem bestL_mem (f : List Int → List (List Int)) : ∀ (os : List (List Int)) (b : List (List Int)), bestL f b os = b ∨ ∃ to ∈ os, bestL f b os = f to
  | [], _ => .inl rfl
  | t :: os, b => by
    have e : bestL f b (t :: os) = bestL f (if lessB (f t) b then f t else b) os := rfl
    rw [e]
    rcases bestL_mem f os (if lessB (f t) b then f t else b) with h | ⟨to, h1, h2⟩
    · rw [h]
      split
      · exact .inr ⟨t, List.mem_cons_self, rfl⟩
      · exact .inl rfl
    · exact .inr ⟨to, List.mem_cons_of_mem _ h1, h2⟩
theorem bestL_least (f : List Int → List (List Int)) : ∀ (os : List (List Int)) (b : List (List Int)), lessB b (bestL f b os) = false ∧ ∀ to ∈ os, lessB (f to) (bestL f b os) = false
  | [], b => ⟨lex_irrefl _, fun _ h => by simp at h⟩
  | t :: os, b => by
    have e : bestL f b (t :: os) = bestL f (if lessB (f t) b then f t else b) os := rfl
    rw [e]
    obtain ⟨h1, h2⟩ := bestL_least f os (if lessB (f t) b then f t else b)
    generalize bestL f (if lessB (f t) b then f t else b) os = m at h1 h2
    split at h1
    · rename_i q
      have hb : lessB b m = false := by
        cases r : lessB b m with
        | false => rfl
        | true => rw [show lessB (f t) m = true from lex_trans q r] at h1; cases h1
      refine ⟨hb, fun to hto => ?_⟩
      rcases List.mem_cons.1 hto with rfl | hto
      · exact h1
      · exact h2 to hto
    · rename_i q
      refine ⟨h1, fun to hto => ?_⟩
      rcases List.mem_cons.1 hto with rfl | hto
      · exact lex_neg (Bool.not_eq_true _ ▸ q) h1
      · exact h2 to hto

/-! ### The smallest form -/
def canL (zss : List (List Int)) (strain : Int) : List (List Int) := bestL (fun to => permD to (relRows zss)) (relRows zss) (ordS strain)
def canV (zss : List (List Int)) (strain : Int) : List (List Int) := if dealB zss && inB strain 0 4 then canL zss strain else []
def canE (zss : List (List Int)) (strain : Int) : Int := if dealB zss then (if inB strain 0 4 then 0 else 2) else 1
def sameV (zss yss : List (List Int)) (strain : Int) : Bool := (dealB zss && (dealB yss && inB strain 0 4)) && decide (canL zss strain = canL yss strain)
theorem best_mem {zss : List (List Int)} {strain : Int} (hd : dealB zss = true) (hs : inB strain 0 4 = true) (os : List (List Int)) (hos : ∀ to ∈ os, okO strain to = true) : ∃ to, okO strain to = true ∧ bestL (fun to => permD to (relRows zss)) (relRows zss) os = permD to (relRows zss) := by
  rcases bestL_mem (fun to => permD to (relRows zss)) os (relRows zss) with h | ⟨to, h1, h2⟩
  · exact ⟨[0, 1, 2, 3], okO_same hs, by rw [h, permD_same (rel_deal hd)]⟩
  · exact ⟨to, hos to h1, h2⟩
theorem can_mem {zss : List (List Int)} {strain : Int} (hd : dealB zss = true) (hs : inB strain 0 4 = true) : ∃ to, okO strain to = true ∧ canL zss strain = permD to (relRows zss) :=
  best_mem hd hs _ fun to h => (mem_ordS strain to).1 h
theorem can_least {zss : List (List Int)} {strain : Int} {to : List Int} (ho : okO strain to = true) : lessB (permD to (relRows zss)) (canL zss strain) = false :=
  (bestL_least (fun to => permD to (relRows zss)) (ordS strain) (relRows zss)).2 to ((mem_ordS strain to).2 ho)
theorem rows_flat {a b : List (List Int)} (ha : a.length = 4) (hb : b.length = 4) (hl : ∀ j, j < 4 → (a.getD j []).length = (b.getD j []).length) (h : a.flatten = b.flatten) : a = b := by
  obtain ⟨a0, a1, a2, a3, rfl⟩ := four_rows ha
  obtain ⟨b0, b1, b2, b3, rfl⟩ := four_rows hb
  have l0 : a0.length = b0.length := hl 0 (by omega)
  have l1 : a1.length = b1.length := hl 1 (by omega)
  have l2 : a2.length = b2.length := hl 2 (by omega)
  simp only [List.flatten_cons, List.flatten_nil, List.append_nil] at h
  obtain ⟨e0, h1⟩ := List.append_inj h l0
  obtain ⟨e1, h2⟩ := List.append_inj h1 l1
  obtain ⟨e2, e3⟩ := List.append_inj h2 l2
  rw [e0, e1, e2, e3]
theorem relRows_length (zss : List (List Int)) : (relRows zss).length = zss.length := by simp [relRows]
theorem can_deal {zss : List (List Int)} {strain : Int} (hd : dealB zss = true) (hs : inB strain 0 4 = true) : dealB (canL zss strain) = true := by
  obtain ⟨to, ho, e⟩ := can_mem hd hs
  rw [e]; exact permD_deal (okO_order ho) (rel_deal hd)
theorem can_row {zss : List (List Int)} {strain : Int} (hd : dealB zss = true) (hs : inB strain 0 4 = true) (j : Nat) : ((canL zss strain).getD j []).length = (zss.getD j []).length := by
  obtain ⟨to, ho, e⟩ := can_mem hd hs
  rw [e, permD_row, relRows_getD, List.length_map]
/-- Deals whose relative forms differ by an allowed list have one smallest form. -/
theorem can_same {zss yss : List (List Int)} {strain : Int} {u : List Int} (hd : dealB zss = true) (hd' : dealB yss = true) (hs : inB strain 0 4 = true) (hu : okO strain u = true) (e : relRows yss = permD u (relRows zss)) : canL yss strain = canL zss strain := by
  have r := rel_deal hd
  have ou := okO_order hu
  obtain ⟨t, ht, e1⟩ := can_mem hd hs
  obtain ⟨t', ht', e2⟩ := can_mem hd' hs
  have h1 : lessB (canL yss strain) (canL zss strain) = false := by
    have := can_least (zss := zss) (okO_cmp hs ht' hu)
    rw [← permD_cmp (okO_order ht') ou r, ← e, ← e2] at this
    exact this
  have h2 : lessB (canL zss strain) (canL yss strain) = false := by
    have := can_least (zss := yss) (okO_cmp hs ht (okO_back hs hu))
    rw [← permD_cmp (okO_order ht) (back_order ou) (rel_deal hd'), e, permD_back ou r, ← e1] at this
    exact this
  have hf := lex_tri h1 h2
  have l1 := ((deal_iff _).1 (can_deal hd hs)).1
  have l2 := ((deal_iff _).1 (can_deal hd' hs)).1
  refine rows_flat l2 l1 (fun j hj => ?_) hf
  rw [e1, e2, e]
  simp only [permD_row]
theorem can_perm {zss : List (List Int)} {strain : Int} {u : List Int} (hd : dealB zss = true) (hs : inB strain 0 4 = true) (hu : okO strain u = true) : canL (permD u zss) strain = canL zss strain :=
  can_same hd (permD_deal (okO_order hu) hd) hs hu (rel_perm (okO_order hu) hd)
theorem can_can {zss : List (List Int)} {strain : Int} (hd : dealB zss = true) (hs : inB strain 0 4 = true) : canL (canL zss strain) strain = canL zss strain := by
  obtain ⟨t, ht, e⟩ := can_mem hd hs
  refine can_same hd (can_deal hd hs) hs ht ?_
  rw [e, rel_perm (okO_order ht) (rel_deal hd), rel_rel hd]
theorem same_flat {zss yss : List (List Int)} {strain : Int} (hd : dealB zss = true) (hd' : dealB yss = true) (hs : inB strain 0 4 = true) : canL zss strain = canL yss strain ↔ (canL zss strain).flatten = (canL yss strain).flatten := by
  refine ⟨fun h => by rw [h], fun h => ?_⟩
  obtain ⟨g4, gr, _⟩ := (deal_iff _).1 (can_deal hd hs)
  obtain ⟨k4, kr, _⟩ := (deal_iff _).1 (can_deal hd' hs)
  have e : ((canL zss strain).getD 0 []).length = ((canL yss strain).getD 0 []).length := by
    have := congrArg List.length h
    generalize canL zss strain = a at g4 gr this
    generalize canL yss strain = b at k4 kr this
    obtain ⟨a0, a1, a2, a3, rfl⟩ := four_rows g4
    obtain ⟨b0, b1, b2, b3, rfl⟩ := four_rows k4
    have a1 := (gr 1 (by omega)).2
    have a2 := (gr 2 (by omega)).2
    have a3 := (gr 3 (by omega)).2
    have b1 := (kr 1 (by omega)).2
    have b2 := (kr 2 (by omega)).2
    have b3 := (kr 3 (by omega)).2
    simp at this a1 a2 a3 b1 b2 b3 ⊢
    omega
  exact rows_flat g4 k4 (fun j hj => by rw [(gr j hj).2, (kr j hj).2, e]) h
end

end Go.Proofs.Yteojdlacdnfgiaa.Lib1
