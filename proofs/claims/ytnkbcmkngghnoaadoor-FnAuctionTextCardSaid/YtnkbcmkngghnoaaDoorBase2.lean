/- Contracts of CardsOfSuit (program and model), and the law that compares them. Contracts of the model's HandWith and HandWithout and of what they call: membership, insertion, removal. Contracts of the library functions that the program's hands go through, at slices of int64: slices.BinarySearch, slices.Grow of nil, slices.Concat. Contracts of the program's HandWith and HandWithout, and the laws that compare them with the model. The laws that compare HandWith and HandWithout with the model. Lists: what a hand is, a card put in and taken out, the cards of the four suits. No function of the program. -/
import Derived.Test.YtnkbcmkngghnoaaDoorBase1
import Derived.WalkSpells
import Derived.Lib.AppendZerosOnto
import Derived.Laws.AppendOwnNone
import Derived.RegionTactic
import Derived.ChangeAlike
import Derived.Deep.RegionWith
import Derived.Deep.DeepFit
namespace Go.Proofs.YtnkbcmkngghnoaaDoor.Lib1

section
open Go.RowKit
set_option maxRecDepth 100000

def suitP (s : Int) (z : Int) : Bool := decide (z / 13 = s)
def suitF (s : Int) (zs : List Int) : List Int := zs.filter (suitP s)
theorem suitF_le (s : Int) (zs : List Int) : (suitF s zs).length ≤ zs.length := List.length_filter_le _ _
theorem suitF_yes {s : Int} {zs : List Int} {k : Nat} (h : k < zs.length) (e : zs.getD k 0 / 13 = s) : suitF s (zs.take (k + 1)) = suitF s (zs.take k) ++ [zs.getD k 0] := by
  unfold suitF; rw [take_filter_succ _ _ _ h]; simp only [suitP, e, decide_true, if_true]
theorem suitF_no {s : Int} {zs : List Int} {k : Nat} (h : k < zs.length) (e : ¬ zs.getD k 0 / 13 = s) : suitF s (zs.take (k + 1)) = suitF s (zs.take k) := by
  unfold suitF; rw [take_filter_succ _ _ _ h]; simp only [suitP, e, decide_false, if_false, Bool.false_eq_true, List.append_nil]


/-- What CardsOfSuit hands back. -/
def cardsV (s : Int) (zs : List Int) : List Int := if handB zs && inB s 0 3 then suitF s zs else []
theorem cardsV_yes {s : Int} {zs : List Int} (h : handB zs = true) (hs : inB s 0 3 = true) : cardsV s zs = suitF s zs := by simp [cardsV, h, hs]
theorem cardsV_no1 {s : Int} {zs : List Int} (h : handB zs = false) : cardsV s zs = [] := by simp [cardsV, h]
theorem cardsV_no2 {s : Int} {zs : List Int} (h : inB s 0 3 = false) : cardsV s zs = [] := by simp [cardsV, h]
theorem cardsV_le (s : Int) (zs : List Int) : (cardsV s zs).length ≤ zs.length := by
  unfold cardsV; split
  · exact suitF_le _ _
  · simp
theorem hand_bounds {zs : List Int} (h : handB zs = true) : zs.length ≤ 13 ∧ ∀ j, j < zs.length → 0 ≤ zs.getD j 0 ∧ zs.getD j 0 ≤ 51 := by
  simp only [handB, risingB, Bool.and_eq_true, decide_eq_true_eq] at h
  exact ⟨h.1, fun j hj => (h.2 j hj).1⟩
theorem RetS.empty_made (w w1 : World) (hb : Chg w w1 0 0) : RetS w [] (.returned (.slice (some ⟨w1.heap.size, 0, none⟩) 0 0)) (w1.alloc (.cells #[] 2)) :=
  ⟨_, 0, rfl, Nat.le_refl _, Plain.at_ _ _ _, Own.none_, hb.trans (Chg.of_alloc _ _ _ _)⟩
theorem RetS.of_later {w w1 w' : World} {zs : List Int} {e : Ending} (hb : Chg w w1 0 0) (h : RetS w1 zs e w') : RetS w zs e w' := by
  obtain ⟨A, c, he, h1, h2, h3, h4⟩ := h
  exact ⟨A, c, he, h1, h2, h3.more hb.size (Nat.le_refl _), hb.trans h4⟩




end

section
open Go.RowKit
set_option maxRecDepth 100000

/-! ### Lists -/
def hasB (zs : List Int) (x : Int) : Bool := decide (x ∈ zs)
theorem take_snoc (zs : List Int) (k : Nat) (h : k < zs.length) : zs.take (k + 1) = zs.take k ++ [zs.getD k 0] := by
  rw [List.take_succ_eq_append_getElem h]; simp [List.getD, List.getElem?_eq_getElem h]
theorem hasB_yes {zs : List Int} {x : Int} {k : Nat} (h : k < zs.length) (e : zs.getD k 0 = x) : hasB zs x = true := by
  simp only [hasB, decide_eq_true_eq]
  rw [← e]; simp only [List.getD, List.getElem?_eq_getElem h, Option.getD_some]; exact List.getElem_mem h
theorem hasB_no {zs : List Int} {x : Int} (h : ∀ j, j < zs.length → zs.getD j 0 ≠ x) : hasB zs x = false := by
  simp only [hasB, decide_eq_false_iff_not]
  intro hm
  obtain ⟨j, hj, e⟩ := List.getElem_of_mem hm
  exact h j hj (by simp [List.getD, List.getElem?_eq_getElem hj, e])
/-- A number is put ahead of the first greater one. -/
def ins (c : Int) : List Int → List Int
  | [] => [c]
  | z :: l => if c < z then c :: z :: l else z :: ins c l
def gtB (c : Int) (l : List Int) : Bool := l.any fun z => decide (c < z)
def insTo (c : Int) (l : List Int) : List Int := if gtB c l then ins c l else l
theorem ins_length (c : Int) : ∀ l : List Int, (ins c l).length = l.length + 1
  | [] => rfl
  | z :: l => by unfold ins; split <;> simp [ins_length c l]
theorem ins_not (c : Int) : ∀ l : List Int, gtB c l = false → ins c l = l ++ [c]
  | [], _ => rfl
  | z :: l, h => by
    simp only [gtB, List.any_cons, Bool.or_eq_false_iff, decide_eq_false_iff_not] at h
    unfold ins; rw [if_neg h.1, ins_not c l h.2]; rfl
theorem ins_snoc (c z : Int) : ∀ l : List Int, gtB c l = true → ins c (l ++ [z]) = ins c l ++ [z]
  | [], h => by simp [gtB] at h
  | y :: l, h => by
    by_cases e : c < y
    · simp [ins, e]
    · have h' : gtB c l = true := by simpa [gtB, e] using h
      simp [ins, e, ins_snoc c z l h']
theorem ins_snoc_now (c z : Int) (hz : c < z) : ∀ l : List Int, gtB c l = false → ins c (l ++ [z]) = l ++ [c] ++ [z]
  | [], _ => by simp [ins, hz]
  | y :: l, h => by
    simp only [gtB, List.any_cons, Bool.or_eq_false_iff, decide_eq_false_iff_not] at h
    simp [ins, h.1, ins_snoc_now c z hz l h.2]
theorem gtB_snoc (c z : Int) (l : List Int) : gtB c (l ++ [z]) = (gtB c l || decide (c < z)) := by simp [gtB]
theorem insTo_done {c z : Int} {l : List Int} (h : gtB c l = true) : insTo c (l ++ [z]) = insTo c l ++ [z] := by
  simp [insTo, gtB_snoc, h, ins_snoc c z l h]
theorem insTo_now {c z : Int} {l : List Int} (h : gtB c l = false) (hz : c < z) : insTo c (l ++ [z]) = insTo c l ++ [c] ++ [z] := by
  simp only [insTo, gtB_snoc, h, hz, decide_true, Bool.false_or, if_true, ins_snoc_now c z hz l h]; simp
theorem insTo_not {c z : Int} {l : List Int} (h : gtB c l = false) (hz : ¬ c < z) : insTo c (l ++ [z]) = insTo c l ++ [z] := by
  simp [insTo, gtB_snoc, h, hz]
theorem insTo_le (c : Int) (l : List Int) : (insTo c l).length ≤ l.length + 1 := by
  unfold insTo; split
  · rw [ins_length]; omega
  · omega
def dropF (x : Int) (zs : List Int) : List Int := zs.filter fun z => !decide (z = x)
theorem dropF_le (x : Int) (zs : List Int) : (dropF x zs).length ≤ zs.length := List.length_filter_le _ _
theorem dropF_no {x : Int} {zs : List Int} {k : Nat} (h : k < zs.length) (e : ¬ zs.getD k 0 = x) : dropF x (zs.take (k + 1)) = dropF x (zs.take k) ++ [zs.getD k 0] := by
  unfold dropF; rw [take_filter_succ _ _ _ h]; simp only [e, decide_false, Bool.not_false, if_true]
theorem dropF_yes {x : Int} {zs : List Int} {k : Nat} (h : k < zs.length) (e : zs.getD k 0 = x) : dropF x (zs.take (k + 1)) = dropF x (zs.take k) := by
  unfold dropF; rw [take_filter_succ _ _ _ h]; simp only [e, decide_true, Bool.not_true, Bool.false_eq_true, if_false, List.append_nil]

/-! ### The model's functions -/




/-! ### What HandWith and HandWithout hand back -/
/-- The code of HandWith. -/
def withC (zs : List Int) (x : Int) : Int := if handB zs then (if inB x 0 51 then (if hasB zs x then 5 else if zs.length = 13 then 3 else 0) else 2) else 1
def withV (zs : List Int) (x : Int) : List Int := if withC zs x = 0 then ins x zs else []
def withoutC (zs : List Int) (x : Int) : Int := if handB zs then (if hasB zs x then 0 else 4) else 1
def withoutV (zs : List Int) (x : Int) : List Int := if withoutC zs x = 0 then dropF x zs else []
theorem hand_len {zs : List Int} (h : handB zs = true) : zs.length ≤ 13 := (hand_bounds h).1
theorem withV_le (zs : List Int) (x : Int) : (withV zs x).length ≤ 14 := by
  unfold withV
  split
  · rename_i h
    cases hh : handB zs with
    | true => rw [ins_length]; have := hand_len hh; omega
    | false => simp [withC, hh] at h
  · simp
theorem withoutV_le (zs : List Int) (x : Int) : (withoutV zs x).length ≤ 13 := by
  unfold withoutV
  split
  · rename_i h
    cases hh : handB zs with
    | true => have := hand_len hh; have := dropF_le x zs; omega
    | false => simp [withoutC, hh] at h
  · simp
theorem with_of {zs : List Int} {x k : Int} {l : List Int} (hk : withC zs x = k) (hl : withV zs x = l) : ∀ (w : World) (e : Ending) (w' : World), RetSI w l k e w' → RetSI w (withV zs x) (withC zs x) e w' := by
  intro w e w' h; rw [hk, hl]; exact h
theorem without_of {zs : List Int} {x k : Int} {l : List Int} (hk : withoutC zs x = k) (hl : withoutV zs x = l) : ∀ (w : World) (e : Ending) (w' : World), RetSI w l k e w' → RetSI w (withoutV zs x) (withoutC zs x) e w' := by
  intro w e w' h; rw [hk, hl]; exact h
theorem RetSI.empty_made (w w1 : World) (k : Int) (hb : Chg w w1 0 0) : RetSI w [] k (.returned (.tuple #[.slice (some ⟨w1.heap.size, 0, none⟩) 0 0, .int .i64 k])) (w1.alloc (.cells #[] 2)) :=
  ⟨_, 0, rfl, Nat.le_refl _, Plain.at_ _ _ _, Own.none_, hb.trans (Chg.of_alloc _ _ _ _)⟩
theorem RetSI.of_S {w w1 w' : World} {zs : List Int} {A : Option Addr} {m c : Nat} {k : Int} (hb : Chg w w1 0 0) (h : RetS w1 zs (.returned (.slice A m c)) w') : RetSI w zs k (.returned (.tuple #[.slice A m c, .int .i64 k])) w' := by
  obtain ⟨A', c', he, h1, h2, h3, h4⟩ := h
  injection he with he
  injection he with e1 e2 e3
  subst e1 e2 e3
  exact ⟨_, _, rfl, h1, h2, h3.more hb.size (Nat.le_refl _), hb.trans h4⟩
theorem RetSI.nil_ {w w1 : World} {k : Int} (hb : Chg w w1 0 0) : RetSI w [] k (.returned (.tuple #[.slice none 0 0, .int .i64 k])) w1 :=
  ⟨none, 0, rfl, Nat.le_refl _, Plain.nil_, Own.none_, hb⟩



end

section
open Go.RowKit
set_option maxRecDepth 100000




/-- The place of x in an increasing list. -/
structure Place (zs : List Int) (x : Int) (k : Nat) : Prop where
  le : k ≤ zs.length
  below : ∀ j, j < k → zs.getD j 0 < x
  above : ∀ j, k ≤ j → j < zs.length → x ≤ zs.getD j 0

def RetPlace (zs : List Int) (x : Int) (w : World) (e : Ending) (w' : World) : Prop :=
  ∃ k : Nat, Place zs x k ∧ e = .returned (.tuple #[.int .i64 k, .bool (decide (k < zs.length ∧ zs.getD k 0 = x))]) ∧ w = w'





/-- 'out = append(out, xs...)', out the call's own, xs any slice that reads as ys. -/
theorem wpList_cat {w : World} {ops : Array Oper} {rest : List Oper} {o : Oper} {a : Act} {Q : Exit → Act → World → Prop} (hgd : o.guard = none) (s x : Operand)
    (ho : o.op = .call { callee := .builtin .append, args := #[s, x], argTypes := #[24, 24] })
    (base : Nat) (v : Value) (zs : List Int) (hs : a.eval s = v) (hown : OwnV w base v zs) (lo hi : Nat) (A : Option Addr) (m c : Nat) (ys : List Int)
    (hx : a.eval x = .slice A m c) (hnil : A = none → c = 0) (hr : Rd w lo hi A m ys) (hn : zs.length + m ≤ 1048576) (hbase : base ≤ w.heap.size)
    (h : ∀ v' w', OwnV w' base v' (zs ++ ys) → Below base w w' → wpList Tryd.prog ops Q rest (a.put o.dst v') w') : wpList Tryd.prog ops Q (o :: rest) a w := by
  obtain ⟨i0, hi0, hz0, hz1, hz2⟩ := info_parts cells_info
  have hm := hr.1
  cases A with
  | none =>
    have h0 : m = 0 := by
      rcases Nat.eq_zero_or_pos m with e | e
      · exact e
      · obtain ⟨b, off, e', _⟩ := hr.2 e; cases e'
    subst h0
    have hy : ys = [] := List.eq_nil_of_length_eq_zero hm
    subst hy
    obtain rfl := hnil rfl
    refine wpList_append_own_none hgd s x 24 ho base 2 i0 1 Tryd.underlying24 hi0 v zs.length (zs.map (Value.int .i64)) hs hown hx ?_
    exact h v w (by simpa using hown) (Below.refl _ _)
  | some ad =>
    refine wpList_append_own _ hgd s x 24 ho base 2 i0 (.int .i64 0) 1 8 Tryd.underlying24 hi0 hz0 hz1 hz2 rfl (by decide) v zs.length (zs.map (Value.int .i64)) hs hown
      ad m c (ys.map (Value.int .i64)) hx (by simpa using hm) ?_ ?_ ?_ ?_ hbase ?_
    · intro j u hj
      have hj' : j < ys.length := by
        rcases Nat.lt_or_ge j ys.length with e | e
        · exact e
        · rw [List.getElem?_eq_none (by simpa using e)] at hj; cases hj
      obtain ⟨b, off, e, _, _, hc⟩ := hr.2 (by omega)
      injection e with e
      subst e
      have hplain : (⟨b, off, none⟩ : Addr).add j = ⟨b, off + j, none⟩ := by unfold Addr.add; split <;> simp_all
      rw [hplain, hc j (by omega)]
      simp [List.getElem?_eq_getElem hj'] at hj
      rw [← hj]
      simp [List.getD, List.getElem?_eq_getElem hj']
    · intro u hu
      obtain ⟨q, _, rfl⟩ := List.mem_map.1 hu
      rfl
    · unfold maxLen; omega
    · omega
    · intro v' w' h1 h2 _
      refine h v' w' ?_ ((Below.refl _ _).grown h2 hbase hown.block)
      unfold OwnV
      rw [List.length_append, List.map_append, hm]
      exact h1

/-- The first k parts, one behind the other. -/
def catTo (pz : Nat → List Int) (k : Nat) : List Int := ((List.range k).map pz).flatten
theorem catTo_succ (pz : Nat → List Int) (k : Nat) : catTo pz (k + 1) = catTo pz k ++ pz k := by simp [catTo, List.range_succ]
theorem catTo_le (pz : Nat → List Int) : ∀ {k m : Nat}, k ≤ m → (catTo pz k).length ≤ (catTo pz m).length := by
  intro k m h
  induction h with
  | refl => exact Nat.le_refl _
  | step _ ih => rw [catTo_succ]; simp; omega


end

section
open Go.RowKit
set_option maxRecDepth 100000

/-! ### Lists -/
theorem hand_lt {zs : List Int} (h : handB zs = true) : ∀ a b, a < b → b < zs.length → zs.getD a 0 < zs.getD b 0 := by
  simp only [handB, risingB, Bool.and_eq_true, decide_eq_true_eq] at h
  intro a b hab hb
  induction b with
  | zero => omega
  | succ b ih =>
    have h1 := (h.2 (b + 1) hb).2 (by omega)
    rw [Nat.add_sub_cancel] at h1
    by_cases e : a = b
    · subst e; exact h1
    · exact Int.lt_trans (ih (by omega) (by omega)) h1
theorem hand_mono {zs : List Int} (h : handB zs = true) : ∀ a b, a ≤ b → b < zs.length → zs.getD a 0 ≤ zs.getD b 0 := by
  intro a b hab hb
  by_cases e : a = b
  · subst e; exact Int.le_refl _
  · exact Int.le_of_lt (hand_lt h a b (by omega) hb)
theorem getD_eq {zs : List Int} {j : Nat} (h : j < zs.length) : zs.getD j 0 = zs[j] := by simp [List.getD, List.getElem?_eq_getElem h]
/-- The found place tells membership. -/
theorem place_has {zs : List Int} {x : Int} {k : Nat} (p : Place zs x k) (hl : ∀ a b, a < b → b < zs.length → zs.getD a 0 < zs.getD b 0) : decide (k < zs.length ∧ zs.getD k 0 = x) = hasB zs x := by
  by_cases h : k < zs.length ∧ zs.getD k 0 = x
  · rw [decide_eq_true h, hasB_yes h.1 h.2]
  · rw [decide_eq_false h]
    refine (hasB_no fun j hj e => ?_).symm
    by_cases hjk : j < k
    · have := p.below j hjk; omega
    · by_cases hjk2 : j = k
      · subst hjk2; exact h ⟨hj, e⟩
      · have h1 := p.above k (Nat.le_refl _) (by omega)
        have h2 := hl k j (by omega) hj
        omega
theorem ins_split (c : Int) : ∀ (l r : List Int), (∀ z ∈ l, ¬ c < z) → (∀ z, r.head? = some z → c < z) → ins c (l ++ r) = l ++ c :: r
  | [], [], _, _ => rfl
  | [], z :: r, _, h => by simp [ins, h z rfl]
  | y :: l, r, h1, h2 => by
    have hy := h1 y (by simp)
    simp only [List.cons_append, ins, if_neg hy, ins_split c l r (fun z hz => h1 z (by simp [hz])) h2]
theorem mem_take_lt {zs : List Int} {k : Nat} {x : Int} (p : Place zs x k) : ∀ z ∈ zs.take k, z < x := by
  intro z hz
  obtain ⟨j, hj, e⟩ := List.getElem_of_mem hz
  have hj2 : j < k ∧ j < zs.length := by simp at hj; omega
  have := p.below j hj2.1
  rw [getD_eq hj2.2] at this
  rw [← e, List.getElem_take]; exact this
theorem place_ins {zs : List Int} {x : Int} {k : Nat} (p : Place zs x k) (hn : ¬ (k < zs.length ∧ zs.getD k 0 = x)) : zs.take k ++ x :: zs.drop k = ins x zs := by
  have h := ins_split x (zs.take k) (zs.drop k) (fun z hz => by have := mem_take_lt p z hz; omega) (fun z hz => by
    rw [List.head?_drop] at hz
    have hk : k < zs.length := by
      rcases Nat.lt_or_ge k zs.length with e | e
      · exact e
      · rw [List.getElem?_eq_none e] at hz; cases hz
    have h1 := p.above k (Nat.le_refl _) hk
    have h2 : zs.getD k 0 = z := by simp [List.getD, hz]
    have h3 : zs.getD k 0 ≠ x := fun e => hn ⟨hk, e⟩
    omega)
  rw [List.take_append_drop] at h
  exact h.symm
theorem place_drop {zs : List Int} {x : Int} {k : Nat} (p : Place zs x k) (hl : ∀ a b, a < b → b < zs.length → zs.getD a 0 < zs.getD b 0) (hk : k < zs.length) (he : zs.getD k 0 = x) : zs.take k ++ zs.drop (k + 1) = dropF x zs := by
  have e : zs = zs.take k ++ (zs.getD k 0 :: zs.drop (k + 1)) := by
    rw [getD_eq hk, List.getElem_cons_drop hk, List.take_append_drop]
  have h1 : dropF x (zs.take k) = zs.take k := by
    unfold dropF
    rw [List.filter_eq_self]
    intro z hz
    have := mem_take_lt p z hz
    have : z ≠ x := by omega
    simp [this]
  have h2 : dropF x (zs.drop (k + 1)) = zs.drop (k + 1) := by
    unfold dropF
    rw [List.filter_eq_self]
    intro z hz
    obtain ⟨j, hj, e⟩ := List.getElem_of_mem hz
    rw [List.getElem_drop] at e
    have hj2 : k + 1 + j < zs.length := by simp at hj; omega
    have h3 := hl k (k + 1 + j) (by omega) hj2
    rw [he, getD_eq hj2, e] at h3
    have : z ≠ x := by omega
    simp [this]
  have h3 : dropF x zs = dropF x (zs.take k) ++ dropF x (zs.getD k 0 :: zs.drop (k + 1)) := by
    conv => lhs; rw [e]
    simp only [dropF, List.filter_append]
  have h4 : dropF x (zs.getD k 0 :: zs.drop (k + 1)) = dropF x (zs.drop (k + 1)) := by rw [he]; simp [dropF]
  rw [h3, h4, h1, h2]

/-! ### Cuts of a slice; Concat of what HandWith and HandWithout lay before it -/
theorem Rd.take {w : World} {lo hi : Nat} {A : Option Addr} {n k : Nat} {zs : List Int} (h : Rd w lo hi A n zs) (hk : k ≤ n) : Rd w lo hi A k (zs.take k) := by
  refine ⟨by simp [h.1]; omega, fun hp => ?_⟩
  obtain ⟨b, off, e, h1, h2, hc⟩ := h.2 (by omega)
  refine ⟨b, off, e, h1, h2, fun j hj => ?_⟩
  rw [hc j (by omega)]
  simp [List.getD, hj]
theorem Rd.drop {w : World} {lo hi b off n k : Nat} {zs : List Int} (A : Option Addr) (h : Rd w lo hi (some ⟨b, off, none⟩) n zs) (hk : k ≤ n) (hA : k < n → A = some ⟨b, off + k, none⟩) : Rd w lo hi A (n - k) (zs.drop k) := by
  refine ⟨by simp [h.1], fun hp => ?_⟩
  obtain ⟨b', off', e, h1, h2, hc⟩ := h.2 (by omega)
  injection e with e
  injection e with e1 e2
  subst e1 e2
  refine ⟨b, off + k, hA (by omega), h1, h2, fun j hj => ?_⟩
  rw [Nat.add_assoc, hc (k + j) (by omega)]
  simp [List.getD, List.getElem?_drop]

def three {α : Type} (a b c : α) : Nat → α
  | 0 => a | 1 => b | _ => c
theorem catTo_three (a b c : List Int) : catTo (three a b c) 3 = a ++ (b ++ c) := by simp [catTo, three, List.range_succ]
theorem catTo_two (a b c : List Int) : catTo (three a b c) 2 = a ++ b := by simp [catTo, three, List.range_succ]








end

section
open Go.RowKit
set_option maxRecDepth 100000



end

section
open Go.RowKit
set_option maxRecDepth 100000

theorem hand_iff (zs : List Int) : handB zs = true ↔ zs.length ≤ 13 ∧ zs.Pairwise (· < ·) ∧ ∀ z ∈ zs, 0 ≤ z ∧ z ≤ 51 := by
  constructor
  · intro h
    refine ⟨hand_len h, ?_, ?_⟩
    · rw [List.pairwise_iff_getElem]
      intro i j hi hj hij
      have := hand_lt h i j hij hj
      rwa [getD_eq hi, getD_eq hj] at this
    · intro z hz
      obtain ⟨j, hj, e⟩ := List.getElem_of_mem hz
      have := (hand_bounds h).2 j hj
      rwa [getD_eq hj, e] at this
  · rintro ⟨h1, h2, h3⟩
    simp only [handB, risingB, Bool.and_eq_true, decide_eq_true_eq]
    refine ⟨h1, fun j hj => ⟨?_, fun h0 => ?_⟩⟩
    · rw [getD_eq hj]; exact h3 _ (List.getElem_mem hj)
    · have hj' : j - 1 < zs.length := by omega
      rw [getD_eq hj, getD_eq hj']
      exact List.pairwise_iff_getElem.1 h2 (j - 1) j hj' hj (by omega)
theorem mem_ins (c y : Int) : ∀ l : List Int, y ∈ ins c l ↔ y = c ∨ y ∈ l
  | [] => by simp [ins]
  | z :: l => by
    unfold ins
    split
    · simp
    · simp only [List.mem_cons, mem_ins c y l]
      constructor
      · rintro (h | h | h) <;> simp [h]
      · rintro (h | h | h) <;> simp [h]
theorem ins_pairwise (c : Int) : ∀ l : List Int, l.Pairwise (· < ·) → c ∉ l → (ins c l).Pairwise (· < ·)
  | [], _, _ => by simp [ins]
  | z :: l, h, hc => by
    rw [List.pairwise_cons] at h
    have hne : c ≠ z := fun e => hc (by simp [e])
    have hcl : c ∉ l := fun e => hc (by simp [e])
    unfold ins
    split
    · rename_i hlt
      rw [List.pairwise_cons, List.pairwise_cons]
      refine ⟨fun y hy => ?_, h⟩
      rcases List.mem_cons.1 hy with rfl | hy
      · exact hlt
      · exact Int.lt_trans hlt (h.1 y hy)
    · rename_i hge
      rw [List.pairwise_cons]
      refine ⟨fun y hy => ?_, ins_pairwise c l h.2 hcl⟩
      rcases (mem_ins c y l).1 hy with rfl | hy
      · omega
      · exact h.1 y hy
theorem drop_not (x : Int) (l : List Int) (h : x ∉ l) : dropF x l = l := by
  unfold dropF
  rw [List.filter_eq_self]
  intro z hz
  have : z ≠ x := fun e => h (e ▸ hz)
  simp [this]
theorem drop_ins (x : Int) : ∀ l : List Int, x ∉ l → dropF x (ins x l) = l
  | [], _ => by simp [ins, dropF]
  | z :: l, h => by
    have hne : z ≠ x := fun e => h (by simp [e])
    have hcl : x ∉ l := fun e => h (by simp [e])
    have h2 := drop_not x (z :: l) h
    unfold ins
    split
    · have : dropF x (x :: z :: l) = dropF x (z :: l) := by simp [dropF]
      rw [this, h2]
    · have : dropF x (z :: ins x l) = z :: dropF x (ins x l) := by simp [dropF, hne]
      rw [this, drop_ins x l hcl]
/-- What an accepted HandWith means. -/
theorem with_ok {zs : List Int} {x : Int} (h : withC zs x = 0) : withV zs x = ins x zs ∧ handB (ins x zs) = true ∧ withoutC (ins x zs) x = 0 ∧ withoutV (ins x zs) x = zs := by
  have hh : handB zs = true := by
    cases e : handB zs with
    | true => rfl
    | false => simp [withC, e] at h
  have hi : inB x 0 51 = true := by
    cases e : inB x 0 51 with
    | true => rfl
    | false => simp [withC, hh, e] at h
  have hs : hasB zs x = false := by
    cases e : hasB zs x with
    | false => rfl
    | true => simp [withC, hh, hi, e] at h
  have h13 : zs.length ≠ 13 := fun e => by simp [withC, hh, hi, hs, e] at h
  obtain ⟨h1, h2, h3⟩ := (hand_iff zs).1 hh
  have hm : x ∉ zs := by simpa [hasB] using hs
  have hx : 0 ≤ x ∧ x ≤ 51 := by simpa [inB] using hi
  have hI : handB (ins x zs) = true := (hand_iff _).2 ⟨by rw [ins_length]; omega, ins_pairwise x zs h2 hm, fun z hz => by
    rcases (mem_ins x z zs).1 hz with rfl | hz
    · exact hx
    · exact h3 z hz⟩
  have hhas : hasB (ins x zs) x = true := by simp [hasB, mem_ins]
  have hc : withoutC (ins x zs) x = 0 := by simp [withoutC, hI, hhas]
  exact ⟨by simp [withV, h], hI, hc, by simp [withoutV, hc, drop_ins x zs hm]⟩
theorem suitF_nil {s : Int} {l : List Int} (h : ∀ y ∈ l, ¬ y / 13 = s) : suitF s l = [] := by
  unfold suitF
  rw [List.filter_eq_nil_iff]
  intro y hy
  simp [suitP, h y hy]
theorem suitF_hit {s z : Int} {l : List Int} (h : z / 13 = s) : suitF s (z :: l) = z :: suitF s l := by simp [suitF, suitP, h]
theorem suitF_miss {s z : Int} {l : List Int} (h : ¬ z / 13 = s) : suitF s (z :: l) = suitF s l := by simp [suitF, suitP, h]
theorem suits_all : ∀ l : List Int, l.Pairwise (· < ·) → (∀ z ∈ l, 0 ≤ z ∧ z ≤ 51) → suitF 0 l ++ (suitF 1 l ++ (suitF 2 l ++ suitF 3 l)) = l
  | [], _, _ => rfl
  | z :: l, h, hb => by
    rw [List.pairwise_cons] at h
    have ih := suits_all l h.2 (fun y hy => hb y (by simp [hy]))
    have hz := hb z (by simp)
    have hq : z / 13 = 0 ∨ z / 13 = 1 ∨ z / 13 = 2 ∨ z / 13 = 3 := by omega
    have hlow : ∀ s : Int, s < z / 13 → suitF s l = [] := fun s hs => suitF_nil fun y hy e => by
      have := h.1 y hy
      omega
    rcases hq with q | q | q | q
    · rw [suitF_hit q, suitF_miss (by omega), suitF_miss (by omega), suitF_miss (by omega)]
      simp only [List.cons_append, ih]
    · rw [suitF_miss (by omega), suitF_hit q, suitF_miss (by omega), suitF_miss (by omega)]
      have e0 := hlow 0 (by omega)
      rw [e0] at ih ⊢
      simp only [List.nil_append, List.cons_append] at ih ⊢
      rw [ih]
    · rw [suitF_miss (by omega), suitF_miss (by omega), suitF_hit q, suitF_miss (by omega)]
      have e0 := hlow 0 (by omega)
      have e1 := hlow 1 (by omega)
      rw [e0, e1] at ih ⊢
      simp only [List.nil_append, List.cons_append] at ih ⊢
      rw [ih]
    · rw [suitF_miss (by omega), suitF_miss (by omega), suitF_miss (by omega), suitF_hit q]
      have e0 := hlow 0 (by omega)
      have e1 := hlow 1 (by omega)
      have e2 := hlow 2 (by omega)
      rw [e0, e1, e2] at ih ⊢
      simp only [List.nil_append] at ih ⊢
      rw [ih]
end

end Go.Proofs.YtnkbcmkngghnoaaDoor.Lib1
