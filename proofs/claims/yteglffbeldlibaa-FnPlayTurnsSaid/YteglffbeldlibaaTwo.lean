/- Chapter 2, lists alone: shapes, sums over the suits, losers and quick tricks, the text of a hand and its reading. No function of the program. Chapter 2, lists alone, second part: shapes and patterns, honors, the text of a hand and its reading. No function of the program. Sorted lists: known by their numbers, by their members; what is sorted or put in. Lists alone. Chapter 2, lists alone, third part: the text of a hand, its reading, and that they fit. No function of the program. Contracts of the model's functions of chapter 2 that return numbers and lists: shapes, points, controls, losers, quick tricks, honors. Contracts of the model's l02Down and PatternOf of chapter 2. Contracts of the model's texts of hands of chapter 2: l02Text, HandText, ReadHand. -/
import Derived.Test.YteglffbeldlibaaBase2
import Derived.Test.YteglffbeldlibaaBase1
import Derived.Deep.RegionWith
import Derived.Deep.DeepFit
namespace Go.Proofs.Yteglffbeldlibaa.Lib1

section
open Go.RowKit
set_option maxRecDepth 100000

/-! ### Parts of a hand -/
theorem suitF_sub (s : Int) (zs : List Int) : ∀ z ∈ suitF s zs, z ∈ zs := fun _ hz => (List.mem_filter.1 hz).1
theorem mem_suitF {s z : Int} {zs : List Int} : z ∈ suitF s zs ↔ z ∈ zs ∧ z / 13 = s := by simp [suitF, suitP, List.mem_filter]
theorem suitF_hand {zs : List Int} (s : Int) (h : handB zs = true) : handB (suitF s zs) = true := by
  obtain ⟨h1, h2, h3⟩ := (hand_iff zs).1 h
  exact (hand_iff _).2 ⟨Nat.le_trans (suitF_le s zs) h1, h2.filter _, fun z hz => h3 z (suitF_sub s zs z hz)⟩
theorem suitF_same (s : Int) (zs : List Int) : suitF s (suitF s zs) = suitF s zs := by
  unfold suitF; rw [List.filter_filter]; simp
theorem suitF_other {s t : Int} (zs : List Int) (h : s ≠ t) : suitF s (suitF t zs) = [] :=
  suitF_nil fun _ hy e => h (e.symm.trans (mem_suitF.1 hy).2)
theorem hand_nil : handB [] = true := rfl

/-! ### Sums -/
def sumF (f : Int → Int) : List Int → Int
  | [] => 0
  | z :: l => f z + sumF f l
theorem sumF_append (f : Int → Int) : ∀ a b : List Int, sumF f (a ++ b) = sumF f a + sumF f b
  | [], b => by simp [sumF]
  | z :: a, b => by simp only [List.cons_append, sumF, sumF_append f a b]; omega
theorem sumF_snoc (f : Int → Int) (l : List Int) (z : Int) : sumF f (l ++ [z]) = sumF f l + f z := by rw [sumF_append]; simp [sumF]
theorem sumF_suits (f : Int → Int) {zs : List Int} (h : handB zs = true) : sumF f zs = sumF f (suitF 0 zs) + sumF f (suitF 1 zs) + sumF f (suitF 2 zs) + sumF f (suitF 3 zs) := by
  obtain ⟨_, h2, h3⟩ := (hand_iff zs).1 h
  conv => lhs; rw [← suits_all zs h2 h3]
  simp only [sumF_append]; omega
theorem sumF_nonneg {f : Int → Int} (hf : ∀ z, 0 ≤ f z) : ∀ l : List Int, 0 ≤ sumF f l
  | [] => by simp [sumF]
  | z :: l => by have := sumF_nonneg hf l; have := hf z; simp only [sumF]; omega
theorem sumF_le {f g : Int → Int} : ∀ l : List Int, (∀ z ∈ l, f z ≤ g z) → sumF f l ≤ sumF g l
  | [], _ => by simp [sumF]
  | z :: l, h => by
    have := sumF_le l (fun y hy => h y (by simp [hy]))
    have := h z (by simp)
    simp only [sumF]; omega
theorem sumF_mem {f : Int → Int} (hf : ∀ z, 0 ≤ f z) : ∀ (l : List Int) (a : Int), a ∈ l → f a ≤ sumF f l
  | z :: l, a, h => by
    have h0 := sumF_nonneg hf l
    have h1 := hf z
    rcases List.mem_cons.1 h with rfl | h
    · simp only [sumF]; omega
    · have := sumF_mem hf l a h; simp only [sumF]; omega
theorem sumF_mem2 {f : Int → Int} (hf : ∀ z, 0 ≤ f z) : ∀ (l : List Int) (a b : Int), a ∈ l → b ∈ l → a ≠ b → f a + f b ≤ sumF f l
  | z :: l, a, b, ha, hb, hne => by
    have h1 := hf z
    rcases List.mem_cons.1 ha with e | ha'
    · rcases List.mem_cons.1 hb with e' | hb'
      · exact absurd (e.trans e'.symm) hne
      · have := sumF_mem hf l b hb'; rw [e]; simp only [sumF]; omega
    · rcases List.mem_cons.1 hb with e' | hb'
      · have := sumF_mem hf l a ha'; rw [e']; simp only [sumF]; omega
      · have := sumF_mem2 hf l a b ha' hb' hne; simp only [sumF]; omega
def pointF (z : Int) : Int := max 0 (z % 13 - 8)
def contrF (z : Int) : Int := max 0 (z % 13 - 10)
def hcpV (zs : List Int) : Int := if handB zs then sumF pointF zs else -1
def ctrlV (zs : List Int) : Int := if handB zs then sumF contrF zs else -1
theorem contr_le_point (z : Int) : contrF z ≤ pointF z := by unfold contrF pointF; omega
theorem contr_nonneg (z : Int) : 0 ≤ contrF z := by unfold contrF; omega

/-! ### Losers and quick tricks -/
def topB (zs : List Int) (s r : Int) : Bool := hasB zs (13 * s + r)
theorem topB_suit (zs : List Int) (s r : Int) (h0 : 0 ≤ r) (h1 : r ≤ 12) : topB zs s r = hasB (suitF s zs) (13 * s + r) := by
  unfold topB hasB
  have : (13 * s + r) / 13 = s := by omega
  simp [mem_suitF, this]
/-- The losers of one suit: of the k highest cards. -/
def loseTo (zs : List Int) (s : Int) : Nat → Int
  | 0 => 0
  | k + 1 => loseTo zs s k + if topB zs s (12 - (k : Int)) then 0 else 1
def loseS (zs : List Int) (s : Int) : Int := loseTo zs s (min 3 (suitF s zs).length)
def losersV (zs : List Int) : Int := if handB zs then loseS zs 0 + loseS zs 1 + loseS zs 2 + loseS zs 3 else -1
theorem loseTo_range (zs : List Int) (s : Int) : ∀ k, 0 ≤ loseTo zs s k ∧ loseTo zs s k ≤ k
  | 0 => by simp [loseTo]
  | k + 1 => by have := loseTo_range zs s k; simp only [loseTo]; split <;> omega
theorem loseTo_suit (zs : List Int) (s : Int) : ∀ k, k ≤ 3 → loseTo (suitF s zs) s k = loseTo zs s k
  | 0, _ => rfl
  | k + 1, h => by
    simp only [loseTo, loseTo_suit zs s k (by omega)]
    rw [topB_suit zs s _ (by omega) (by omega), topB_suit (suitF s zs) s _ (by omega) (by omega), suitF_same]
theorem loseS_suit (zs : List Int) (s : Int) : loseS (suitF s zs) s = loseS zs s := by
  unfold loseS; rw [suitF_same, loseTo_suit zs s _ (by omega)]
theorem loseS_other (zs : List Int) {s t : Int} (h : s ≠ t) : loseS (suitF t zs) s = 0 := by
  unfold loseS; rw [suitF_other zs h]; rfl
theorem loseS_range (zs : List Int) (s : Int) : 0 ≤ loseS zs s ∧ loseS zs s ≤ 3 ∧ loseS zs s ≤ (suitF s zs).length := by
  have := loseTo_range zs s (min 3 (suitF s zs).length)
  unfold loseS; omega
/-- Twice the quick tricks of one suit. -/
def quickS (zs : List Int) (s : Int) : Int :=
  if topB zs s 12 && topB zs s 11 then 4 else if topB zs s 12 && topB zs s 10 then 3 else if topB zs s 12 || (topB zs s 11 && topB zs s 10) then 2
  else if topB zs s 11 && decide (1 < (suitF s zs).length) then 1 else 0
def quickV (zs : List Int) : Int := if handB zs then quickS zs 0 + quickS zs 1 + quickS zs 2 + quickS zs 3 else -1
theorem quickS_suit (zs : List Int) (s : Int) : quickS (suitF s zs) s = quickS zs s := by
  have h : ∀ r, 0 ≤ r → r ≤ 12 → topB (suitF s zs) s r = topB zs s r := fun r h0 h1 => by
    rw [topB_suit zs s r h0 h1, topB_suit (suitF s zs) s r h0 h1, suitF_same]
  unfold quickS; rw [h 12 (by omega) (by omega), h 11 (by omega) (by omega), h 10 (by omega) (by omega), suitF_same]
theorem topB_none (zs : List Int) {s t : Int} (h : s ≠ t) (r : Int) (h0 : 0 ≤ r) (h1 : r ≤ 12) : topB (suitF t zs) s r = false := by
  rw [topB_suit _ s r h0 h1, suitF_other zs h]; rfl
theorem quickS_other (zs : List Int) {s t : Int} (h : s ≠ t) : quickS (suitF t zs) s = 0 := by
  unfold quickS; rw [topB_none zs h 12 (by omega) (by omega), topB_none zs h 11 (by omega) (by omega)]; rfl
theorem quickS_le (zs : List Int) (s : Int) : 0 ≤ quickS zs s ∧ quickS zs s ≤ 2 * sumF contrF (suitF s zs) := by
  have hn := sumF_nonneg contr_nonneg (suitF s zs)
  have ha : topB zs s 12 = true → 2 ≤ sumF contrF (suitF s zs) := fun h => by
    rw [topB_suit zs s 12 (by omega) (by omega)] at h
    have hm : 13 * s + 12 ∈ suitF s zs := by simpa [hasB] using h
    have := sumF_mem contr_nonneg _ _ hm
    have e : contrF (13 * s + 12) = 2 := by unfold contrF; omega
    omega
  have hk : topB zs s 11 = true → 1 ≤ sumF contrF (suitF s zs) := fun h => by
    rw [topB_suit zs s 11 (by omega) (by omega)] at h
    have hm : 13 * s + 11 ∈ suitF s zs := by simpa [hasB] using h
    have := sumF_mem contr_nonneg _ _ hm
    have e : contrF (13 * s + 11) = 1 := by unfold contrF; omega
    omega
  unfold quickS
  cases h12 : topB zs s 12 <;> cases h11 : topB zs s 11 <;> cases h10 : topB zs s 10 <;> simp only [Bool.and_true, Bool.and_false, Bool.true_and, Bool.false_and, Bool.or_true, Bool.or_false, if_true, if_false, Bool.false_eq_true]
  all_goals first | (have := ha h12; omega) | (have := hk h11; split <;> omega) | (have := hk h11; omega) | omega
end

section
open Go.RowKit
set_option maxRecDepth 100000

/-! ### Shapes and patterns -/
def shapeF (zs : List Int) : List Int := [((suitF 0 zs).length : Int), ((suitF 1 zs).length : Int), ((suitF 2 zs).length : Int), ((suitF 3 zs).length : Int)]
def shapeV (zs : List Int) : List Int := if handB zs then shapeF zs else []
/-- A number is put ahead of the first smaller one. -/
def insD (x : Int) : List Int → List Int
  | [] => [x]
  | y :: l => if y < x then x :: y :: l else y :: insD x l
def downF (l : List Int) : List Int := l.foldl (fun o x => insD x o) []
def patternV (zs : List Int) : List Int := if handB zs then downF (shapeF zs) else []
theorem shape_sum {zs : List Int} (h : handB zs = true) : ((suitF 0 zs).length : Int) + (suitF 1 zs).length + (suitF 2 zs).length + (suitF 3 zs).length = zs.length := by
  obtain ⟨_, h2, h3⟩ := (hand_iff zs).1 h
  have := congrArg List.length (suits_all zs h2 h3)
  simp only [List.length_append] at this
  omega
theorem insD_length (x : Int) : ∀ l : List Int, (insD x l).length = l.length + 1
  | [] => rfl
  | y :: l => by unfold insD; split <;> simp [insD_length x l]
theorem insD_sum (f : Int → Int) (x : Int) : ∀ l : List Int, sumF f (insD x l) = f x + sumF f l
  | [] => by simp [insD, sumF]
  | y :: l => by
    unfold insD; split
    · simp only [sumF]
    · simp only [sumF, insD_sum f x l]; omega
theorem mem_insD (x z : Int) : ∀ l : List Int, z ∈ insD x l ↔ z = x ∨ z ∈ l
  | [] => by simp [insD]
  | y :: l => by
    unfold insD; split
    · simp
    · simp only [List.mem_cons, mem_insD x z l]
      constructor
      · rintro (h | h | h) <;> simp [h]
      · rintro (h | h | h) <;> simp [h]
theorem insD_down (x : Int) : ∀ l : List Int, l.Pairwise (· ≥ ·) → (insD x l).Pairwise (· ≥ ·)
  | [], _ => by simp [insD]
  | y :: l, h => by
    rw [List.pairwise_cons] at h
    unfold insD; split
    · rename_i hlt
      rw [List.pairwise_cons, List.pairwise_cons]
      refine ⟨fun z hz => ?_, h⟩
      rcases List.mem_cons.1 hz with rfl | hz
      · show _ ≤ _; omega
      · have := h.1 z hz; show _ ≤ _; have : z ≤ y := this; omega
    · rename_i hge
      rw [List.pairwise_cons]
      refine ⟨fun z hz => ?_, insD_down x l h.2⟩
      rcases (mem_insD x z l).1 hz with rfl | hz
      · show _ ≤ _; omega
      · exact h.1 z hz
theorem down_facts (f : Int → Int) : ∀ (l o : List Int), o.Pairwise (· ≥ ·) → (l.foldl (fun o x => insD x o) o).Pairwise (· ≥ ·) ∧ (l.foldl (fun o x => insD x o) o).length = o.length + l.length ∧ sumF f (l.foldl (fun o x => insD x o) o) = sumF f o + sumF f l
  | [], o, h => by simp [sumF, h]
  | x :: l, o, h => by
    have ih := down_facts f l (insD x o) (insD_down x o h)
    simp only [List.foldl_cons]
    refine ⟨ih.1, ?_, ?_⟩
    · rw [ih.2.1, insD_length, List.length_cons]; omega
    · rw [ih.2.2, insD_sum]; simp only [sumF]; omega
theorem downF_down (l : List Int) : (downF l).Pairwise (· ≥ ·) := (down_facts (fun _ => 0) l [] List.Pairwise.nil).1
theorem downF_length (l : List Int) : (downF l).length = l.length := by have := (down_facts (fun _ => 0) l [] List.Pairwise.nil).2.1; simpa [downF] using this
theorem downF_sum (f : Int → Int) (l : List Int) : sumF f (downF l) = sumF f l := by have := (down_facts f l [] List.Pairwise.nil).2.2; simpa [downF, sumF] using this
/-- The four numbers of a pattern. -/
theorem pattern_four (zs : List Int) : ∃ a b c d : Int, downF (shapeF zs) = [a, b, c, d] ∧ b ≤ a ∧ c ≤ b ∧ d ≤ c ∧ a * a + b * b + c * c + d * d = ((suitF 0 zs).length : Int) * (suitF 0 zs).length + ((suitF 1 zs).length : Int) * (suitF 1 zs).length + ((suitF 2 zs).length : Int) * (suitF 2 zs).length + ((suitF 3 zs).length : Int) * (suitF 3 zs).length := by
  have hl : (downF (shapeF zs)).length = 4 := downF_length _
  have hd := downF_down (shapeF zs)
  have hs := downF_sum (fun z => z * z) (shapeF zs)
  match h : downF (shapeF zs), hl with
  | [a, b, c, d], _ =>
    rw [h] at hd hs
    simp only [List.pairwise_cons, List.mem_cons, List.not_mem_nil, or_false] at hd
    simp only [sumF, shapeF] at hs
    refine ⟨a, b, c, d, rfl, hd.1 b (.inl rfl), hd.2.1 c (.inl rfl), hd.2.2.1 d rfl, by omega⟩

/-! ### Honors -/
def honF (t z : Int) : Int := if (t = 4 ∧ z % 13 = 12) ∨ (z / 13 = t ∧ 8 ≤ z % 13) then 1 else 0
def honV (zs : List Int) (t : Int) : Int := if handB zs && inB t 0 4 then sumF (honF t) zs else -1
theorem honF_other {s t : Int} (zs : List Int) (hs : s ≤ 3) (h : s ≠ t) : sumF (honF s) (suitF t zs) = 0 := by
  have : ∀ l : List Int, (∀ z ∈ l, z / 13 = t) → sumF (honF s) l = 0 := by
    intro l
    induction l with
    | nil => intro _; rfl
    | cons z l ih =>
      intro hz
      have h1 := hz z (by simp)
      have h2 := ih (fun y hy => hz y (by simp [hy]))
      have h3 : honF s z = 0 := by unfold honF; rw [if_neg (by omega)]
      simp only [sumF, h2, h3]; rfl
  exact this _ (fun z hz => (mem_suitF.1 hz).2)
theorem hon_part {zs : List Int} (h : handB zs = true) {s : Int} (h0 : 0 ≤ s) (h1 : s ≤ 3) : sumF (honF s) (suitF s zs) = sumF (honF s) zs := by
  have hq : s = 0 ∨ s = 1 ∨ s = 2 ∨ s = 3 := by omega
  have e := sumF_suits (honF s) h
  rcases hq with rfl | rfl | rfl | rfl
  · rw [honF_other zs (t := 1) (by omega) (by omega), honF_other zs (t := 2) (by omega) (by omega), honF_other zs (t := 3) (by omega) (by omega)] at e; omega
  · rw [honF_other zs (t := 0) (by omega) (by omega), honF_other zs (t := 2) (by omega) (by omega), honF_other zs (t := 3) (by omega) (by omega)] at e; omega
  · rw [honF_other zs (t := 0) (by omega) (by omega), honF_other zs (t := 1) (by omega) (by omega), honF_other zs (t := 3) (by omega) (by omega)] at e; omega
  · rw [honF_other zs (t := 0) (by omega) (by omega), honF_other zs (t := 1) (by omega) (by omega), honF_other zs (t := 2) (by omega) (by omega)] at e; omega

/-! ### The law FnHandParts and the law FnShapes, on lists -/
theorem hcp_parts {zs : List Int} (h : handB zs = true) : hcpV (suitF 0 zs) + hcpV (suitF 1 zs) + hcpV (suitF 2 zs) + hcpV (suitF 3 zs) = hcpV zs := by
  simp only [hcpV, suitF_hand _ h, h, if_true]; rw [sumF_suits pointF h]
theorem ctrl_parts {zs : List Int} (h : handB zs = true) : ctrlV (suitF 0 zs) + ctrlV (suitF 1 zs) + ctrlV (suitF 2 zs) + ctrlV (suitF 3 zs) = ctrlV zs := by
  simp only [ctrlV, suitF_hand _ h, h, if_true]; rw [sumF_suits contrF h]
theorem losers_part {zs : List Int} (h : handB zs = true) {s : Int} (h0 : 0 ≤ s) (h1 : s ≤ 3) : losersV (suitF s zs) = loseS zs s := by
  simp only [losersV, suitF_hand _ h, if_true]
  have hq : s = 0 ∨ s = 1 ∨ s = 2 ∨ s = 3 := by omega
  rcases hq with rfl | rfl | rfl | rfl
  · rw [loseS_suit, loseS_other zs (s := 1) (by omega), loseS_other zs (s := 2) (by omega), loseS_other zs (s := 3) (by omega)]; omega
  · rw [loseS_suit, loseS_other zs (s := 0) (by omega), loseS_other zs (s := 2) (by omega), loseS_other zs (s := 3) (by omega)]; omega
  · rw [loseS_suit, loseS_other zs (s := 0) (by omega), loseS_other zs (s := 1) (by omega), loseS_other zs (s := 3) (by omega)]; omega
  · rw [loseS_suit, loseS_other zs (s := 0) (by omega), loseS_other zs (s := 1) (by omega), loseS_other zs (s := 2) (by omega)]; omega
theorem quick_part {zs : List Int} (h : handB zs = true) {s : Int} (h0 : 0 ≤ s) (h1 : s ≤ 3) : quickV (suitF s zs) = quickS zs s := by
  simp only [quickV, suitF_hand _ h, if_true]
  have hq : s = 0 ∨ s = 1 ∨ s = 2 ∨ s = 3 := by omega
  rcases hq with rfl | rfl | rfl | rfl
  · rw [quickS_suit, quickS_other zs (s := 1) (by omega), quickS_other zs (s := 2) (by omega), quickS_other zs (s := 3) (by omega)]; omega
  · rw [quickS_suit, quickS_other zs (s := 0) (by omega), quickS_other zs (s := 2) (by omega), quickS_other zs (s := 3) (by omega)]; omega
  · rw [quickS_suit, quickS_other zs (s := 0) (by omega), quickS_other zs (s := 1) (by omega), quickS_other zs (s := 3) (by omega)]; omega
  · rw [quickS_suit, quickS_other zs (s := 0) (by omega), quickS_other zs (s := 1) (by omega), quickS_other zs (s := 2) (by omega)]; omega
theorem losers_parts {zs : List Int} (h : handB zs = true) : losersV (suitF 0 zs) + losersV (suitF 1 zs) + losersV (suitF 2 zs) + losersV (suitF 3 zs) = losersV zs := by
  rw [losers_part h (by omega) (by omega), losers_part h (by omega) (by omega), losers_part h (by omega) (by omega), losers_part h (by omega) (by omega)]
  simp only [losersV, h, if_true]
theorem quick_parts {zs : List Int} (h : handB zs = true) : quickV (suitF 0 zs) + quickV (suitF 1 zs) + quickV (suitF 2 zs) + quickV (suitF 3 zs) = quickV zs := by
  rw [quick_part h (by omega) (by omega), quick_part h (by omega) (by omega), quick_part h (by omega) (by omega), quick_part h (by omega) (by omega)]
  simp only [quickV, h, if_true]
theorem aces_parts {zs : List Int} (h : handB zs = true) : honV (suitF 0 zs) 4 + honV (suitF 1 zs) 4 + honV (suitF 2 zs) 4 + honV (suitF 3 zs) 4 = honV zs 4 := by
  have e : inB 4 0 4 = true := rfl
  simp only [honV, suitF_hand _ h, h, e, Bool.and_self, if_true]; rw [sumF_suits (honF 4) h]
theorem honors_part {zs : List Int} (h : handB zs = true) {s : Int} (h0 : 0 ≤ s) (h1 : s ≤ 3) : honV (suitF s zs) s = honV zs s := by
  have e : inB s 0 4 = true := inB_true (by omega)
  simp only [honV, suitF_hand _ h, h, e, Bool.and_self, if_true]; exact hon_part h h0 h1
theorem shapes_bounds {zs : List Int} (h : handB zs = true) : ctrlV zs ≤ hcpV zs ∧ quickV zs ≤ 2 * ctrlV zs ∧ 0 ≤ losersV zs ∧ losersV zs ≤ 12 ∧ losersV zs ≤ zs.length := by
  have hs := shape_sum h
  have q0 := quickS_le zs 0
  have q1 := quickS_le zs 1
  have q2 := quickS_le zs 2
  have q3 := quickS_le zs 3
  have l0 := loseS_range zs 0
  have l1 := loseS_range zs 1
  have l2 := loseS_range zs 2
  have l3 := loseS_range zs 3
  have hc := sumF_suits contrF h
  have hle : sumF contrF zs ≤ sumF pointF zs := sumF_le zs (fun z _ => contr_le_point z)
  simp only [ctrlV, hcpV, quickV, losersV, h, if_true]
  omega
end

section
open Go.RowKit
set_option maxRecDepth 100000

/-! ### A falling list is known by its numbers -/
def ind (a z : Int) : Int := if z = a then 1 else 0
theorem ind_out {a : Int} : ∀ l : List Int, a ∉ l → sumF (ind a) l = 0
  | [], _ => rfl
  | z :: l, h => by
    have h1 : z ≠ a := fun e => h (by simp [e])
    have ih := ind_out l (fun e => h (List.mem_cons_of_mem _ e))
    simp only [sumF, ih, ind, if_neg h1]; rfl
theorem ind_nonneg (a : Int) (z : Int) : 0 ≤ ind a z := by unfold ind; split <;> omega
theorem mem_of_same {a : Int} {l k : List Int} (h : sumF (ind a) l = sumF (ind a) k) (ha : a ∈ l) : a ∈ k := by
  by_cases hk : a ∈ k
  · exact hk
  · have h1 := sumF_mem (ind_nonneg a) l a ha
    rw [h, ind_out k hk] at h1
    simp [ind] at h1
theorem falling_eq : ∀ l k : List Int, l.Pairwise (· ≥ ·) → k.Pairwise (· ≥ ·) → (∀ f, sumF f l = sumF f k) → l = k
  | [], [], _, _, _ => rfl
  | [], b :: k, _, _, h => by have := mem_of_same (h (ind b)).symm (by simp); simp at this
  | a :: l, [], _, _, h => by have := mem_of_same (h (ind a)) (by simp); simp at this
  | a :: l, b :: k, hl, hk, h => by
    rw [List.pairwise_cons] at hl hk
    have h1 : a ≤ b := by
      rcases List.mem_cons.1 (mem_of_same (h (ind a)) (by simp)) with e | e
      · omega
      · exact hk.1 a e
    have h2 : b ≤ a := by
      rcases List.mem_cons.1 (mem_of_same (h (ind b)).symm (by simp)) with e | e
      · omega
      · exact hl.1 b e
    have e : a = b := by omega
    subst e
    rw [falling_eq l k hl.2 hk.2 (fun f => by have := h f; simp only [sumF] at this; omega)]
theorem sumF_perm (f : Int → Int) {l k : List Int} (h : l.Perm k) : sumF f l = sumF f k := by
  induction h with
  | nil => rfl
  | cons x _ ih => simp only [sumF, ih]
  | swap x y l => simp only [sumF]; omega
  | trans _ _ ih1 ih2 => rw [ih1, ih2]
theorem sumF_reverse (f : Int → Int) (l : List Int) : sumF f l.reverse = sumF f l := sumF_perm f (List.reverse_perm l)
def sortI (l : List Int) : List Int := l.mergeSort fun x y => decide (x ≤ y)
theorem down_merge (l : List Int) : (sortI l).reverse = downF l := by
  apply falling_eq
  · rw [List.pairwise_reverse]
    have h := List.pairwise_mergeSort (le := fun x y : Int => decide (x ≤ y)) (by intro a b c; simp; omega) (by intro a b; simp; omega) l
    exact h.imp (by intro a b hab; simpa using hab)
  · exact downF_down l
  · intro f
    rw [sumF_reverse, downF_sum]
    exact sumF_perm f (List.mergeSort_perm l _)
theorem sortI_length (l : List Int) : (sortI l).length = l.length := by simp [sortI]


/-! ### Rising lists -/
theorem sortI_perm (l : List Int) : (sortI l).Perm l := List.mergeSort_perm l _
theorem sortI_le (l : List Int) : (sortI l).Pairwise (· ≤ ·) := by
  have h := List.pairwise_mergeSort (le := fun x y : Int => decide (x ≤ y)) (by intro a b c; simp; omega) (by intro a b; simp; omega) l
  exact h.imp (by intro a b hab; simpa using hab)
theorem mem_sortI (l : List Int) (z : Int) : z ∈ sortI l ↔ z ∈ l := (sortI_perm l).mem_iff
theorem strict_of : ∀ l : List Int, l.Pairwise (· ≤ ·) → l.Nodup → l.Pairwise (· < ·)
  | [], _, _ => List.Pairwise.nil
  | a :: l, h, n => by
    rw [List.pairwise_cons] at h
    rw [List.nodup_cons] at n
    rw [List.pairwise_cons]
    refine ⟨fun b hb => ?_, strict_of l h.2 n.2⟩
    have h1 := h.1 b hb
    have h2 : a ≠ b := fun e => n.1 (e ▸ hb)
    omega
theorem strict_nodup {l : List Int} (h : l.Pairwise (· < ·)) : l.Nodup := h.imp (fun hab e => by omega)
theorem sortI_strict {l : List Int} (h : l.Nodup) : (sortI l).Pairwise (· < ·) := strict_of _ (sortI_le l) ((sortI_perm l).nodup_iff.2 h)
/-- A strictly rising list is known by its members. -/
theorem strict_eq : ∀ l k : List Int, l.Pairwise (· < ·) → k.Pairwise (· < ·) → (∀ z, z ∈ l ↔ z ∈ k) → l = k
  | [], [], _, _, _ => rfl
  | [], b :: k, _, _, h => by have := (h b).2 (by simp); simp at this
  | a :: l, [], _, _, h => by have := (h a).1 (by simp); simp at this
  | a :: l, b :: k, hl, hk, h => by
    rw [List.pairwise_cons] at hl hk
    have h1 : b ≤ a := by
      rcases List.mem_cons.1 ((h a).1 (by simp)) with e | e
      · omega
      · have := hk.1 a e; omega
    have h2 : a ≤ b := by
      rcases List.mem_cons.1 ((h b).2 (by simp)) with e | e
      · omega
      · have := hl.1 b e; omega
    obtain rfl : a = b := by omega
    rw [strict_eq l k hl.2 hk.2 (fun z => ?_)]
    constructor
    · intro hz
      rcases List.mem_cons.1 ((h z).1 (by simp [hz])) with e | e
      · have := hl.1 z hz; omega
      · exact e
    · intro hz
      rcases List.mem_cons.1 ((h z).2 (by simp [hz])) with e | e
      · have := hk.1 z hz; omega
      · exact e
theorem sort_self {l : List Int} (h : l.Pairwise (· < ·)) : sortI l = l := strict_eq _ _ (sortI_strict (strict_nodup h)) h (fun z => mem_sortI l z)
theorem rising_eq {l k : List Int} (hl : l.Pairwise (· ≤ ·)) (hk : k.Pairwise (· ≤ ·)) (h : l.Perm k) : l = k := by
  have e := falling_eq l.reverse k.reverse (List.pairwise_reverse.2 (hl.imp fun x => x)) (List.pairwise_reverse.2 (hk.imp fun x => x)) (fun f => by rw [sumF_reverse, sumF_reverse]; exact sumF_perm f h)
  exact List.reverse_inj.1 e
theorem ins_perm (c : Int) : ∀ l : List Int, (ins c l).Perm (c :: l)
  | [] => List.Perm.refl _
  | z :: l => by
    unfold ins
    split
    · exact List.Perm.refl _
    · exact ((ins_perm c l).cons z).trans (List.Perm.swap c z l)
theorem ins_le (c : Int) : ∀ l : List Int, l.Pairwise (· ≤ ·) → (ins c l).Pairwise (· ≤ ·)
  | [], _ => by simp [ins]
  | z :: l, h => by
    rw [List.pairwise_cons] at h
    unfold ins
    split
    · rw [List.pairwise_cons, List.pairwise_cons]
      refine ⟨fun y hy => ?_, h⟩
      rcases List.mem_cons.1 hy with rfl | hy
      · omega
      · have := h.1 y hy; omega
    · rw [List.pairwise_cons]
      refine ⟨fun y hy => ?_, ins_le c l h.2⟩
      rcases (mem_ins c y l).1 hy with rfl | hy
      · omega
      · exact h.1 y hy
end

section
open Go.RowKit
set_option maxRecDepth 100000

/-- The letter of a card's rank. -/
def rk (z : Int) : UInt8 := rankL.getD (z % 13).toNat 0
theorem rk_fin : ∀ k : Fin 13, Lib.indexByte rankL (rankL.getD k.val 0) = (k.val : Int) ∧ rankL.getD k.val 0 ≠ 46 := by decide +kernel
theorem rk_facts (z : Int) : Lib.indexByte rankL (rk z) = z % 13 ∧ rk z ≠ 46 := by
  have h := rk_fin ⟨(z % 13).toNat, by omega⟩
  have e : (((z % 13).toNat : Nat) : Int) = z % 13 := by omega
  refine ⟨?_, h.2⟩
  unfold rk
  rw [h.1, e]
/-- The letters of one suit. -/
def segT (s : Int) (zs : List Int) : List UInt8 := ((suitF s zs).reverse).map rk
def textH (zs : List Int) : List UInt8 := segT 3 zs ++ 46 :: (segT 2 zs ++ 46 :: (segT 1 zs ++ 46 :: segT 0 zs))
def handText (zs : List Int) : List UInt8 := if handB zs then textH zs else []
theorem textH_length {zs : List Int} (h : handB zs = true) : (textH zs).length = zs.length + 3 := by
  have := shape_sum h
  simp only [textH, segT, List.length_append, List.length_cons, List.length_map, List.length_reverse]; omega
/-- One letter is read: the cards so far, the suit. -/
def stepR (st : List Int × Int) (b : UInt8) : List Int × Int :=
  if b = 46 then (st.1, st.2 - 1) else if 0 ≤ Lib.indexByte rankL b ∧ 0 ≤ st.2 ∧ 13 * st.2 + Lib.indexByte rankL b ∉ st.1 then (ins (13 * st.2 + Lib.indexByte rankL b) st.1, st.2) else st
def parseR (l : List UInt8) : List Int × Int := l.foldl stepR ([], 3)
def readL (l : List UInt8) : List Int := if l.length ≤ 16 then (parseR l).1 else []
def readB (l : List UInt8) : Bool := decide (handText (readL l) = l)
def readV (l : List UInt8) : List Int := if readB l then readL l else []

theorem ins_front (z : Int) : ∀ H : List Int, (∀ y ∈ H, z < y) → ins z H = z :: H
  | [], _ => rfl
  | y :: H, h => by simp [ins, h y (by simp)]
/-- The letters of a suit, highest first, put its cards ahead of what is there. -/
theorem read_rev (s : Int) (hs : 0 ≤ s) : ∀ (r : List Int) (H : List Int), r.reverse.Pairwise (· < ·) → (∀ z ∈ r, z / 13 = s) → (∀ z ∈ r, ∀ y ∈ H, z < y) → (r.map rk).foldl stepR (H, s) = (r.reverse ++ H, s)
  | [], H, _, _, _ => rfl
  | z :: r, H, hp, hq, hH => by
    have hz := hq z (by simp)
    have hf := rk_facts z
    have hcard : 13 * s + z % 13 = z := by omega
    have hnot : z ∉ H := fun e => by have := hH z (by simp) z e; omega
    have hfront : ins z H = z :: H := ins_front z H (fun y hy => hH z (by simp) y hy)
    have hstep : stepR (H, s) (rk z) = (z :: H, s) := by
      unfold stepR
      rw [if_neg hf.2, hf.1, hcard, if_pos ⟨by omega, hs, hnot⟩, hfront]
    rw [List.reverse_cons, List.pairwise_append] at hp
    rw [List.map_cons, List.foldl_cons, hstep, read_rev s hs r (z :: H) hp.1 (fun y hy => hq y (by simp [hy])) (fun y hy x hx => by
      rcases List.mem_cons.1 hx with rfl | hx
      · exact hp.2.2 y (by simpa using hy) x (by simp)
      · exact hH y (by simp [hy]) x hx)]
    simp
theorem read_seg (s : Int) (hs : 0 ≤ s) (l H : List Int) (hp : l.Pairwise (· < ·)) (hq : ∀ z ∈ l, z / 13 = s) (hH : ∀ z ∈ l, ∀ y ∈ H, z < y) : (l.reverse.map rk).foldl stepR (H, s) = (l ++ H, s) := by
  have h := read_rev s hs l.reverse H (by rw [List.reverse_reverse]; exact hp) (fun z hz => hq z (by simpa using hz)) (fun z hz => hH z (by simpa using hz))
  rwa [List.reverse_reverse] at h
theorem step_dot (H : List Int) (s : Int) : stepR (H, s) 46 = (H, s - 1) := by simp [stepR]
theorem suit_pair {zs : List Int} (h : handB zs = true) (s : Int) : (suitF s zs).Pairwise (· < ·) ∧ (∀ z ∈ suitF s zs, z / 13 = s) := by
  obtain ⟨_, h2, _⟩ := (hand_iff zs).1 h
  exact ⟨h2.filter _, fun z hz => (mem_suitF.1 hz).2⟩
theorem suit_less {zs : List Int} {s t : Int} (h : s < t) : ∀ z ∈ suitF s zs, ∀ y ∈ suitF t zs, z < y := by
  intro z hz y hy
  have := (mem_suitF.1 hz).2
  have := (mem_suitF.1 hy).2
  omega
theorem parse_text {zs : List Int} (h : handB zs = true) : (parseR (textH zs)).1 = zs := by
  have p0 := suit_pair h 0
  have p1 := suit_pair h 1
  have p2 := suit_pair h 2
  have p3 := suit_pair h 3
  unfold parseR textH segT
  rw [List.foldl_append, read_seg 3 (by omega) (suitF 3 zs) [] p3.1 p3.2 (fun _ _ y hy => by cases hy), List.append_nil, List.foldl_cons, step_dot]
  rw [List.foldl_append, show (3 : Int) - 1 = 2 from rfl, read_seg 2 (by omega) (suitF 2 zs) (suitF 3 zs) p2.1 p2.2 (suit_less (by omega)), List.foldl_cons, step_dot]
  rw [List.foldl_append, show (2 : Int) - 1 = 1 from rfl, read_seg 1 (by omega) (suitF 1 zs) (suitF 2 zs ++ suitF 3 zs) p1.1 p1.2 (fun z hz y hy => by
    rcases List.mem_append.1 hy with hy | hy
    · exact suit_less (by omega) z hz y hy
    · exact suit_less (by omega) z hz y hy), List.foldl_cons, step_dot]
  rw [show (1 : Int) - 1 = 0 from rfl, read_seg 0 (by omega) (suitF 0 zs) (suitF 1 zs ++ (suitF 2 zs ++ suitF 3 zs)) p0.1 p0.2 (fun z hz y hy => by
    rcases List.mem_append.1 hy with hy | hy
    · exact suit_less (by omega) z hz y hy
    · rcases List.mem_append.1 hy with hy | hy
      · exact suit_less (by omega) z hz y hy
      · exact suit_less (by omega) z hz y hy)]
  obtain ⟨_, h2, h3⟩ := (hand_iff zs).1 h
  exact suits_all zs h2 h3
/-- A hand is recovered from its text. -/
theorem read_text {zs : List Int} (h : handB zs = true) : readL (handText zs) = zs ∧ readB (handText zs) = true ∧ readV (handText zs) = zs := by
  have e : handText zs = textH zs := by simp [handText, h]
  have hl : readL (handText zs) = zs := by
    unfold readL
    rw [e, textH_length h, if_pos (by have := hand_len h; omega), parse_text h]
  have hb : readB (handText zs) = true := by unfold readB; rw [hl]; simp
  exact ⟨hl, hb, by unfold readV; rw [hb, if_pos rfl, hl]⟩
/-- An accepted text is the text of its hand. -/
theorem text_read {l : List UInt8} (h : readB l = true) : handText (readV l) = l ∧ readV l = readL l := by
  have e : readV l = readL l := by unfold readV; rw [h]; rfl
  refine ⟨?_, e⟩
  rw [e]
  unfold readB at h
  exact of_decide_eq_true h
theorem read_no {l : List UInt8} (h : readB l = false) : readV l = [] := by unfold readV; rw [h]; rfl
end

section
open Go.RowKit
set_option maxRecDepth 100000

/-- A number is handed back; what was there is as it was. -/
def RetI (w : World) (v : Int) (e : Ending) (w' : World) : Prop := e = .returned (.int .i64 v) ∧ Chg w w' 0 0

def shapeTo (zs : List Int) : Nat → List Int
  | 0 => []
  | k + 1 => shapeTo zs k ++ [((suitF (k : Int) zs).length : Int)]
theorem shapeTo_len (zs : List Int) : ∀ k, (shapeTo zs k).length = k
  | 0 => rfl
  | k + 1 => by simp [shapeTo, shapeTo_len zs k]
theorem shapeTo_four (zs : List Int) : shapeTo zs 4 = shapeF zs := by simp [shapeTo, shapeF]


theorem RetV.still {w w1 w' : World} {zs : List Int} {e : Ending} (c : Chg w w1 0 0) (h : RetV w1 zs e w') : RetS w zs e w' := RetS.of_later c (RetS.of_V h)
theorem hand_nums {zs : List Int} {n : Nat} (hl : zs.length = n) (h : handB zs = true) : ∀ j, j < n → 0 ≤ zs.getD j 0 ∧ zs.getD j 0 ≤ 51 := by
  intro j hj; exact (hand_bounds h).2 j (by omega)


theorem sumF_take (f : Int → Int) {zs : List Int} {k : Nat} (h : k < zs.length) : sumF f (zs.take (k + 1)) = sumF f (zs.take k) + f (zs.getD k 0) := by rw [take_snoc zs k h, sumF_snoc]
theorem sumF_bound {f : Int → Int} (hf : ∀ z, 0 ≤ f z ∧ f z ≤ 12) : ∀ l : List Int, 0 ≤ sumF f l ∧ sumF f l ≤ 12 * l.length
  | [] => by simp [sumF]
  | z :: l => by have := sumF_bound hf l; have := hf z; simp only [sumF, List.length_cons]; omega
theorem point_if (z : Int) : pointF z = if 8 < z % 13 then z % 13 - 8 else 0 := by unfold pointF; split <;> omega
theorem contr_if (z : Int) : contrF z = if 10 < z % 13 then z % 13 - 10 else 0 := by unfold contrF; split <;> omega
theorem point_bound (z : Int) : 0 ≤ pointF z ∧ pointF z ≤ 12 := by unfold pointF; omega
theorem contr_bound (z : Int) : 0 ≤ contrF z ∧ contrF z ≤ 12 := by unfold contrF; omega
theorem hon_bound (t z : Int) : 0 ≤ honF t z ∧ honF t z ≤ 12 := by unfold honF; split <;> omega




/-- The losers of the first k suits. -/
def losesTo (zs : List Int) : Nat → Int
  | 0 => 0
  | k + 1 => losesTo zs k + loseS zs (k : Int)
theorem losesTo_range (zs : List Int) : ∀ k, 0 ≤ losesTo zs k ∧ losesTo zs k ≤ 3 * (k : Int)
  | 0 => by simp [losesTo]
  | k + 1 => by have := losesTo_range zs k; have := loseS_range zs (k : Int); simp only [losesTo]; omega



theorem quickS_range (zs : List Int) (s : Int) : 0 ≤ quickS zs s ∧ quickS zs s ≤ 4 := by
  unfold quickS; repeat (split; · omega)
  omega



end

section
open Go.RowKit
set_option maxRecDepth 100000

def ltB (x : Int) (l : List Int) : Bool := l.any fun z => decide (z < x)
def insDTo (x : Int) (l : List Int) : List Int := if ltB x l then insD x l else l
theorem insD_not (x : Int) : ∀ l : List Int, ltB x l = false → insD x l = l ++ [x]
  | [], _ => rfl
  | z :: l, h => by
    simp only [ltB, List.any_cons, Bool.or_eq_false_iff, decide_eq_false_iff_not] at h
    unfold insD; rw [if_neg h.1, insD_not x l h.2]; rfl
theorem insD_snoc (x z : Int) : ∀ l : List Int, ltB x l = true → insD x (l ++ [z]) = insD x l ++ [z]
  | [], h => by simp [ltB] at h
  | y :: l, h => by
    by_cases e : y < x
    · simp [insD, e]
    · have h' : ltB x l = true := by simpa [ltB, e] using h
      simp [insD, e, insD_snoc x z l h']
theorem insD_snoc_now (x z : Int) (hz : z < x) : ∀ l : List Int, ltB x l = false → insD x (l ++ [z]) = l ++ [x] ++ [z]
  | [], _ => by simp [insD, hz]
  | y :: l, h => by
    simp only [ltB, List.any_cons, Bool.or_eq_false_iff, decide_eq_false_iff_not] at h
    simp [insD, h.1, insD_snoc_now x z hz l h.2]
theorem ltB_snoc (x z : Int) (l : List Int) : ltB x (l ++ [z]) = (ltB x l || decide (z < x)) := by simp [ltB]
theorem insDTo_done {x z : Int} {l : List Int} (h : ltB x l = true) : insDTo x (l ++ [z]) = insDTo x l ++ [z] := by
  simp [insDTo, ltB_snoc, h, insD_snoc x z l h]
theorem insDTo_now {x z : Int} {l : List Int} (h : ltB x l = false) (hz : z < x) : insDTo x (l ++ [z]) = insDTo x l ++ [x] ++ [z] := by
  simp only [insDTo, ltB_snoc, h, hz, decide_true, Bool.false_or, if_true, insD_snoc_now x z hz l h]; simp
theorem insDTo_not {x z : Int} {l : List Int} (h : ltB x l = false) (hz : ¬ z < x) : insDTo x (l ++ [z]) = insDTo x l ++ [z] := by
  simp [insDTo, ltB_snoc, h, hz]
theorem insDTo_le (x : Int) (l : List Int) : (insDTo x l).length ≤ l.length + 1 := by
  unfold insDTo; split
  · rw [insD_length]; omega
  · omega
theorem down_take {zs : List Int} {k : Nat} (h : k < zs.length) : downF (zs.take (k + 1)) = insD (zs.getD k 0) (downF (zs.take k)) := by
  rw [take_snoc zs k h]; simp [downF]

theorem below_drewN {B : Nat} {a w : World} (h : Below B a w) (q : Nat) : Below B a (w.drewN q) := ⟨h.os, h.tape, h.output, h.size, h.block⟩
theorem OwnV.still {w w' : World} {base : Nat} {v : Value} {zs : List Int} (h : OwnV w base v zs) (c : Chg w w' 0 0) : OwnV w' base v zs := h.chg c (Nat.zero_le _)



end

section
open Go.RowKit
set_option maxRecDepth 100000

/-- A string with these bytes is handed back. -/
def RetT (w : World) (l : List UInt8) (e : Ending) (w' : World) : Prop := e = .returned (.string ⟨l.toArray⟩) ∧ Chg w w' 0 0

theorem bytes_ext {t : ByteArray} {l : List UInt8} (h : t.data.toList = l) : t = ⟨l.toArray⟩ := by
  subst h; cases t; simp
theorem size_list (t : ByteArray) : t.size = t.data.toList.length := by simp
theorem app_list (a b : ByteArray) : (a ++ b).data.toList = a.data.toList ++ b.data.toList := by simp
theorem one_byte (x : Int) : (strOfNums [x]).data.toList = [UInt8.ofNat x.toNat] := by simp [strOfNums]
theorem raf_byte (k : Nat) : UInt8.ofNat (rafV k).toNat = rankL.getD k 0 := by unfold rafV; simp

/-- The text of the first k suits, spades first. -/
def textTo (zs : List Int) : Nat → List UInt8
  | 0 => []
  | k + 1 => textTo zs k ++ segT (3 - (k : Int)) zs ++ if k < 3 then [46] else []
theorem textTo_four (zs : List Int) : textTo zs 4 = textH zs := by simp [textTo, textH]
theorem textTo_len {zs : List Int} (h : zs.length ≤ 13) : ∀ k, (textTo zs k).length ≤ 14 * k
  | 0 => by simp [textTo]
  | k + 1 => by
    have := textTo_len h k
    have := suitF_le (3 - (k : Int)) zs
    simp only [textTo, segT, List.length_append, List.length_map, List.length_reverse]
    split <;> simp <;> omega
theorem seg_step (L : List Int) (i : Nat) (h : i < L.length) : ((L.drop i).reverse.map rk) = ((L.drop (i + 1)).reverse.map rk) ++ [rk (L.getD i 0)] := by
  rw [List.drop_eq_getElem_cons h, List.reverse_cons, List.map_append]
  simp [List.getD, List.getElem?_eq_getElem h]

theorem conv1 (w : World) (x : Int) :
    (convert 22 9 (.slice (some ⟨w.heap.size, 0, none⟩) 1 1)).run Try.prog (w.alloc (.cells #[.int .u8 x] 5)).drew = .ok (.string (strOfNums [x])) (w.alloc (.cells #[.int .u8 x] 5)).drew := by
  refine run_convert_bytes_arg _ 22 5 Try.underlying22 Try.underlying5 _ 0 1 1 [x] rfl ?_ 9 Try.underlying9
  intro i hi
  match i, hi with
  | 0, _ => simp



end

end Go.Proofs.Yteglffbeldlibaa.Lib1
