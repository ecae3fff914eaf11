/- Chapter 5: the program's groupsOf. -/
import Derived.Test.YtdfmkikngifjmaaHold5
import Derived.Test.YtdfmkikngifjmaaGrow5
namespace Go.Proofs.Ytdfmkikngifjmaa.Lib1
open Go.RowKit
set_option maxRecDepth 100000

/-- A function hands back rows of its own. -/
def RetQ (w : World) (zss : List (List Int)) (e : Ending) (w' : World) : Prop := ∃ v, e = .returned v ∧ OwnVQ w' w.heap.size v zss ∧ Below w.heap.size w w'
theorem OwnVQ.more {w : World} {base base' : Nat} {v : Value} {zss : List (List Int)} (h : OwnVQ w base v zss) (hb : base' ≤ base) : OwnVQ w base' v zss := by
  obtain ⟨vs, h1, h2, h3⟩ := h
  refine ⟨vs, ⟨h1.1, ?_⟩, fun j hj => (h2 j hj).more hb, h3⟩
  rcases h1.2 with q | ⟨g, cap, cur, e, hg, r⟩
  · exact .inl q
  · exact .inr ⟨g, cap, cur, e, Nat.le_trans hb hg, r⟩
theorem runsS_zero (f : Int → Int) (s : Int) : runsR (fun x => decide (f x = s)) (ascF f 0 0).reverse = [] := rfl
theorem runs_count (p : Int → Bool) : ∀ l : List Int, (runsR p l).length ≤ l.length
  | [] => Nat.le_refl _
  | x :: l => by
    have := runs_count p l
    rw [runsR]
    split
    · split
      · simp [pushLast]; omega
      · simp; omega
    · simp; omega
theorem runsTo_count (f : Int → Int) (s : Int) : ∀ q, (runsTo f s q).length ≤ 13 * q
  | 0 => Nat.le_refl _
  | q + 1 => by
    have := runsTo_count f s q
    have h1 := runs_count (fun x => decide (f x = s)) (suitA f q).reverse
    have h2 := ascF_len f 13 (13 * (q : Int))
    rw [List.length_reverse] at h1
    rw [runsTo, List.length_append]
    have h3 : (runsS f s q).length ≤ 13 := Nat.le_trans h1 h2
    omega

theorem runs_row (p : Int → Bool) {l r : List Int} (hr : r ∈ runsR p l) : r.length ≤ l.length := by
  have h1 : r.length ≤ (runsR p l).flatten.length := (List.sublist_flatten_of_mem hr).length_le
  rw [runs_flat] at h1
  have h2 := List.length_filter_le p l.reverse
  rw [List.length_reverse] at h2
  omega
theorem runsS_row {f : Int → Int} {s : Int} {q : Nat} {r : List Int} (hr : r ∈ runsS f s q) : r.length ≤ 13 := by
  have := runs_row _ hr
  have h2 := ascF_len f 13 (13 * (q : Int))
  rw [List.length_reverse] at this
  exact Nat.le_trans this h2
theorem runsTo_row {f : Int → Int} {s : Int} {q : Nat} {r : List Int} (hr : r ∈ runsTo f s q) : r.length ≤ 13 := by
  obtain ⟨q, _, h⟩ := mem_runsTo hr
  exact runsS_row h
theorem getD_len {gs : List (List Int)} {n : Nat} (h : ∀ r ∈ gs, r.length ≤ n) (j : Nat) : (gs.getD j []).length ≤ n := by
  by_cases hj : j < gs.length
  · rw [getD_row hj]; exact h _ (List.getElem_mem _)
  · rw [List.getD_eq_getElem?_getD, List.getElem?_eq_none (by omega)]; simp
def stepQ (x s : Int) (gs : List (List Int)) (o : Bool) (c : Int) : List (List Int) × Bool :=
  if x = -1 then (gs, o) else if x = s then ((if o then pushLast gs c else gs ++ [[c]]), true) else (gs, false)
theorem stepG_Q (f : Int → Int) (s : Int) (gs : List (List Int)) (o : Bool) (c : Int) : stepG f s gs o c = stepQ (f c) s gs o c := rfl

/-! ### GroupsOf -/
def RetQI (w : World) (zss : List (List Int)) (k : Int) (e : Ending) (w' : World) : Prop :=
  ∃ A c, e = .returned (.tuple #[.slice A zss.length c, .int .i64 k]) ∧ zss.length ≤ c ∧ OwnR w' w.heap.size w'.heap.size A zss.length zss ∧ Chg w w' 0 0
theorem RetQI.of_eq {w w' : World} {zss zss' : List (List Int)} {k k' : Int} {e : Ending} (h1 : zss' = zss) (h2 : k' = k) (h : RetQI w zss k e w') : RetQI w zss' k' e w' := by subst h1; subst h2; exact h
theorem isSeat (s : Int) (w : World) : Calls Try.prog 110 #[.int .i64 s] w fun e w' => e = .returned (.bool (inB s 0 3)) ∧ w = w' := by
  by_cases h1 : 0 ≤ s
  · by_cases h2 : s < 4
    · rw [inB_true (by omega)]
      go_enter Try.func110, Try.ntmps110
      go_wp2
      go_ret
      exact ⟨rfl, rfl⟩
    · rw [inB_false (by omega)]
      go_enter Try.func110, Try.ntmps110
      go_wp2
      go_ret
      exact ⟨rfl, rfl⟩
  · rw [inB_false (by omega)]
    go_enter Try.func110, Try.ntmps110
    go_wp2
    go_ret
    exact ⟨rfl, rfl⟩


end Go.Proofs.Ytdfmkikngifjmaa.Lib1
