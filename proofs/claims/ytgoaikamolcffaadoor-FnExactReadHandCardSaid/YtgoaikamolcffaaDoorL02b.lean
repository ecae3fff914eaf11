/- Chapter 2, lists alone, second part: shapes and patterns, honors, the text of a hand and its reading. No function of the program. -/
import Derived.Test.YtgoaikamolcffaaDoorL02
namespace Go.Proofs.YtgoaikamolcffaaDoor.Lib1
open Go.RowKit

/-! ### Shapes and patterns -/
def shapeF (zs : List Int) : List Int := [((suitF 0 zs).length : Int), ((suitF 1 zs).length : Int), ((suitF 2 zs).length : Int), ((suitF 3 zs).length : Int)]
def shapeV (zs : List Int) : List Int := if handB zs then shapeF zs else []
/-- A number is put ahead of the first smaller one. -/
def insD (x : Int) : List Int → List Int
  | [] => [x]
  | y :: l => if y < x then x :: y :: l else y :: insD x l
def downF (l : List Int) : List Int := l.foldl (fun o x => insD x o) []
def patternV (zs : List Int) : List Int := if handB zs then downF (shapeF zs) else []
theorem shape_sum {zs : List Int} (h : handB zs = true) : ((suitF 0 zs).length : Int) + (suitF 1 zs).length + (suitF 2 zs).length + (suitF 3 zs).length = zs.length := by
  obtain ⟨_, h2, h3⟩ := (hand_iff zs).1 h
  have := congrArg List.length (suits_all zs h2 h3)
  simp only [List.length_append] at this
  omega
theorem insD_length (x : Int) : ∀ l : List Int, (insD x l).length = l.length + 1
  | [] => rfl
  | y :: l => by unfold insD; split <;> simp [insD_length x l]
theorem insD_sum (f : Int → Int) (x : Int) : ∀ l : List Int, sumF f (insD x l) = f x + sumF f l
  | [] => by simp [insD, sumF]
  | y :: l => by
    unfold insD; split
    · simp only [sumF]
    · simp only [sumF, insD_sum f x l]; omega
theorem mem_insD (x z : Int) : ∀ l : List Int, z ∈ insD x l ↔ z = x ∨ z ∈ l
  | [] => by simp [insD]
  | y :: l => by
    unfold insD; split
    · simp
    · simp only [List.mem_cons, mem_insD x z l]
      constructor
      · rintro (h | h | h) <;> simp [h]
      · rintro (h | h | h) <;> simp [h]
theorem insD_down (x : Int) : ∀ l : List Int, l.Pairwise (· ≥ ·) → (insD x l).Pairwise (· ≥ ·)
  | [], _ => by simp [insD]
  | y :: l, h => by
    rw [List.pairwise_cons] at h
    unfold insD; split
    · rename_i hlt
      rw [List.pairwise_cons, List.pairwise_cons]
      refine ⟨fun z hz => ?_, h⟩
      rcases List.mem_cons.1 hz with rfl | hz
      · show _ ≤ _; omega
      · have := h.1 z hz; show _ ≤ _; have : z ≤ y := this; omega
    · rename_i hge
      rw [List.pairwise_cons]
      refine ⟨fun z hz => ?_, insD_down x l h.2⟩
      rcases (mem_insD x z l).1 hz with rfl | hz
      · show _ ≤ _; omega
      · exact h.1 z hz
theorem down_facts (f : Int → Int) : ∀ (l o : List Int), o.Pairwise (· ≥ ·) → (l.foldl (fun o x => insD x o) o).Pairwise (· ≥ ·) ∧ (l.foldl (fun o x => insD x o) o).length = o.length + l.length ∧ sumF f (l.foldl (fun o x => insD x o) o) = sumF f o + sumF f l
  | [], o, h => by simp [sumF, h]
  | x :: l, o, h => by
    have ih := down_facts f l (insD x o) (insD_down x o h)
    simp only [List.foldl_cons]
    refine ⟨ih.1, ?_, ?_⟩
    · rw [ih.2.1, insD_length, List.length_cons]; omega
    · rw [ih.2.2, insD_sum]; simp only [sumF]; omega
theorem downF_down (l : List Int) : (downF l).Pairwise (· ≥ ·) := (down_facts (fun _ => 0) l [] List.Pairwise.nil).1
theorem downF_length (l : List Int) : (downF l).length = l.length := by have := (down_facts (fun _ => 0) l [] List.Pairwise.nil).2.1; simpa [downF] using this
theorem downF_sum (f : Int → Int) (l : List Int) : sumF f (downF l) = sumF f l := by have := (down_facts f l [] List.Pairwise.nil).2.2; simpa [downF, sumF] using this
/-- The four numbers of a pattern. -/
theorem pattern_four (zs : List Int) : ∃ a b c d : Int, downF (shapeF zs) = [a, b, c, d] ∧ b ≤ a ∧ c ≤ b ∧ d ≤ c ∧ a * a + b * b + c * c + d * d = ((suitF 0 zs).length : Int) * (suitF 0 zs).length + ((suitF 1 zs).length : Int) * (suitF 1 zs).length + ((suitF 2 zs).length : Int) * (suitF 2 zs).length + ((suitF 3 zs).length : Int) * (suitF 3 zs).length := by
  have hl : (downF (shapeF zs)).length = 4 := downF_length _
  have hd := downF_down (shapeF zs)
  have hs := downF_sum (fun z => z * z) (shapeF zs)
  match h : downF (shapeF zs), hl with
  | [a, b, c, d], _ =>
    rw [h] at hd hs
    simp only [List.pairwise_cons, List.mem_cons, List.not_mem_nil, or_false] at hd
    simp only [sumF, shapeF] at hs
    refine ⟨a, b, c, d, rfl, hd.1 b (.inl rfl), hd.2.1 c (.inl rfl), hd.2.2.1 d rfl, by omega⟩

/-! ### Honors -/
def honF (t z : Int) : Int := if (t = 4 ∧ z % 13 = 12) ∨ (z / 13 = t ∧ 8 ≤ z % 13) then 1 else 0
def honV (zs : List Int) (t : Int) : Int := if handB zs && inB t 0 4 then sumF (honF t) zs else -1
theorem honF_other {s t : Int} (zs : List Int) (hs : s ≤ 3) (h : s ≠ t) : sumF (honF s) (suitF t zs) = 0 := by
  have : ∀ l : List Int, (∀ z ∈ l, z / 13 = t) → sumF (honF s) l = 0 := by
    intro l
    induction l with
    | nil => intro _; rfl
    | cons z l ih =>
      intro hz
      have h1 := hz z (by simp)
      have h2 := ih (fun y hy => hz y (by simp [hy]))
      have h3 : honF s z = 0 := by unfold honF; rw [if_neg (by omega)]
      simp only [sumF, h2, h3]; rfl
  exact this _ (fun z hz => (mem_suitF.1 hz).2)
theorem hon_part {zs : List Int} (h : handB zs = true) {s : Int} (h0 : 0 ≤ s) (h1 : s ≤ 3) : sumF (honF s) (suitF s zs) = sumF (honF s) zs := by
  have hq : s = 0 ∨ s = 1 ∨ s = 2 ∨ s = 3 := by omega
  have e := sumF_suits (honF s) h
  rcases hq with rfl | rfl | rfl | rfl
  · rw [honF_other zs (t := 1) (by omega) (by omega), honF_other zs (t := 2) (by omega) (by omega), honF_other zs (t := 3) (by omega) (by omega)] at e; omega
  · rw [honF_other zs (t := 0) (by omega) (by omega), honF_other zs (t := 2) (by omega) (by omega), honF_other zs (t := 3) (by omega) (by omega)] at e; omega
  · rw [honF_other zs (t := 0) (by omega) (by omega), honF_other zs (t := 1) (by omega) (by omega), honF_other zs (t := 3) (by omega) (by omega)] at e; omega
  · rw [honF_other zs (t := 0) (by omega) (by omega), honF_other zs (t := 1) (by omega) (by omega), honF_other zs (t := 2) (by omega) (by omega)] at e; omega

/-! ### The law FnHandParts and the law FnShapes, on lists -/
theorem hcp_parts {zs : List Int} (h : handB zs = true) : hcpV (suitF 0 zs) + hcpV (suitF 1 zs) + hcpV (suitF 2 zs) + hcpV (suitF 3 zs) = hcpV zs := by
  simp only [hcpV, suitF_hand _ h, h, if_true]; rw [sumF_suits pointF h]
theorem ctrl_parts {zs : List Int} (h : handB zs = true) : ctrlV (suitF 0 zs) + ctrlV (suitF 1 zs) + ctrlV (suitF 2 zs) + ctrlV (suitF 3 zs) = ctrlV zs := by
  simp only [ctrlV, suitF_hand _ h, h, if_true]; rw [sumF_suits contrF h]
theorem losers_part {zs : List Int} (h : handB zs = true) {s : Int} (h0 : 0 ≤ s) (h1 : s ≤ 3) : losersV (suitF s zs) = loseS zs s := by
  simp only [losersV, suitF_hand _ h, if_true]
  have hq : s = 0 ∨ s = 1 ∨ s = 2 ∨ s = 3 := by omega
  rcases hq with rfl | rfl | rfl | rfl
  · rw [loseS_suit, loseS_other zs (s := 1) (by omega), loseS_other zs (s := 2) (by omega), loseS_other zs (s := 3) (by omega)]; omega
  · rw [loseS_suit, loseS_other zs (s := 0) (by omega), loseS_other zs (s := 2) (by omega), loseS_other zs (s := 3) (by omega)]; omega
  · rw [loseS_suit, loseS_other zs (s := 0) (by omega), loseS_other zs (s := 1) (by omega), loseS_other zs (s := 3) (by omega)]; omega
  · rw [loseS_suit, loseS_other zs (s := 0) (by omega), loseS_other zs (s := 1) (by omega), loseS_other zs (s := 2) (by omega)]; omega
theorem quick_part {zs : List Int} (h : handB zs = true) {s : Int} (h0 : 0 ≤ s) (h1 : s ≤ 3) : quickV (suitF s zs) = quickS zs s := by
  simp only [quickV, suitF_hand _ h, if_true]
  have hq : s = 0 ∨ s = 1 ∨ s = 2 ∨ s = 3 := by omega
  rcases hq with rfl | rfl | rfl | rfl
  · rw [quickS_suit, quickS_other zs (s := 1) (by omega), quickS_other zs (s := 2) (by omega), quickS_other zs (s := 3) (by omega)]; omega
  · rw [quickS_suit, quickS_other zs (s := 0) (by omega), quickS_other zs (s := 2) (by omega), quickS_other zs (s := 3) (by omega)]; omega
  · rw [quickS_suit, quickS_other zs (s := 0) (by omega), quickS_other zs (s := 1) (by omega), quickS_other zs (s := 3) (by omega)]; omega
  · rw [quickS_suit, quickS_other zs (s := 0) (by omega), quickS_other zs (s := 1) (by omega), quickS_other zs (s := 2) (by omega)]; omega
theorem losers_parts {zs : List Int} (h : handB zs = true) : losersV (suitF 0 zs) + losersV (suitF 1 zs) + losersV (suitF 2 zs) + losersV (suitF 3 zs) = losersV zs := by
  rw [losers_part h (by omega) (by omega), losers_part h (by omega) (by omega), losers_part h (by omega) (by omega), losers_part h (by omega) (by omega)]
  simp only [losersV, h, if_true]
theorem quick_parts {zs : List Int} (h : handB zs = true) : quickV (suitF 0 zs) + quickV (suitF 1 zs) + quickV (suitF 2 zs) + quickV (suitF 3 zs) = quickV zs := by
  rw [quick_part h (by omega) (by omega), quick_part h (by omega) (by omega), quick_part h (by omega) (by omega), quick_part h (by omega) (by omega)]
  simp only [quickV, h, if_true]
theorem aces_parts {zs : List Int} (h : handB zs = true) : honV (suitF 0 zs) 4 + honV (suitF 1 zs) 4 + honV (suitF 2 zs) 4 + honV (suitF 3 zs) 4 = honV zs 4 := by
  have e : inB 4 0 4 = true := rfl
  simp only [honV, suitF_hand _ h, h, e, Bool.and_self, if_true]; rw [sumF_suits (honF 4) h]
theorem honors_part {zs : List Int} (h : handB zs = true) {s : Int} (h0 : 0 ≤ s) (h1 : s ≤ 3) : honV (suitF s zs) s = honV zs s := by
  have e : inB s 0 4 = true := inB_true (by omega)
  simp only [honV, suitF_hand _ h, h, e, Bool.and_self, if_true]; exact hon_part h h0 h1
theorem shapes_bounds {zs : List Int} (h : handB zs = true) : ctrlV zs ≤ hcpV zs ∧ quickV zs ≤ 2 * ctrlV zs ∧ 0 ≤ losersV zs ∧ losersV zs ≤ 12 ∧ losersV zs ≤ zs.length := by
  have hs := shape_sum h
  have q0 := quickS_le zs 0
  have q1 := quickS_le zs 1
  have q2 := quickS_le zs 2
  have q3 := quickS_le zs 3
  have l0 := loseS_range zs 0
  have l1 := loseS_range zs 1
  have l2 := loseS_range zs 2
  have l3 := loseS_range zs 3
  have hc := sumF_suits contrF h
  have hle : sumF contrF zs ≤ sumF pointF zs := sumF_le zs (fun z _ => contr_le_point z)
  simp only [ctrlV, hcpV, quickV, losersV, h, if_true]
  omega

end Go.Proofs.YtgoaikamolcffaaDoor.Lib1
