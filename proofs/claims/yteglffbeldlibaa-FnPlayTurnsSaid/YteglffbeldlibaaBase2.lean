/- Contracts of CardsOfSuit (program and model), and the law that compares them. Contracts of the model's HandWith and HandWithout and of what they call: membership, insertion, removal. Contracts of the library functions that the program's hands go through, at slices of int64: slices.BinarySearch, slices.Grow of nil, slices.Concat. Contracts of the program's HandWith and HandWithout, and the laws that compare them with the model. The laws that compare HandWith and HandWithout with the model. Lists: what a hand is, a card put in and taken out, the cards of the four suits. No function of the program. -/
import Derived.Test.YteglffbeldlibaaBase1
import Derived.WalkSpells
import Derived.Lib.AppendZerosOnto
import Derived.Laws.AppendOwnNone
import Derived.RegionTactic
import Derived.ChangeAlike
import Derived.Deep.RegionWith
import Derived.Deep.DeepFit
namespace Go.Proofs.Yteglffbeldlibaa.Lib1

section
open Go.RowKit
set_option maxRecDepth 100000

def suitP (s : Int) (z : Int) : Bool := decide (z / 13 = s)
def suitF (s : Int) (zs : List Int) : List Int := zs.filter (suitP s)
theorem suitF_le (s : Int) (zs : List Int) : (suitF s zs).length ≤ zs.length := List.length_filter_le _ _
theorem suitF_yes {s : Int} {zs : List Int} {k : Nat} (h : k < zs.length) (e : zs.getD k 0 / 13 = s) : suitF s (zs.take (k + 1)) = suitF s (zs.take k) ++ [zs.getD k 0] := by
  unfold suitF; rw [take_filter_succ _ _ _ h]; simp only [suitP, e, decide_true, if_true]
theorem suitF_no {s : Int} {zs : List Int} {k : Nat} (h : k < zs.length) (e : ¬ zs.getD k 0 / 13 = s) : suitF s (zs.take (k + 1)) = suitF s (zs.take k) := by
  unfold suitF; rw [take_filter_succ _ _ _ h]; simp only [suitP, e, decide_false, if_false, Bool.false_eq_true, List.append_nil]

set_option maxHeartbeats 1000000 in
/-- spec.l01Suit of cards -/
theorem l01Suit (A : Option Addr) (n c : Nat) (s : Int) (zs : List Int) (lo hi : Nat) (w : World) (h : Rd w lo hi A n zs) (hn : n ≤ 1048576) (hz : ∀ j, j < n → 0 ≤ zs.getD j 0 ∧ zs.getD j 0 ≤ 51) :
    Calls Try.prog 135 #[.slice A n c, .int .i64 s] w (RetS w (suitF s zs)) := by
  have hl := h.1
  have HL := Lib.hid hl
  have HZ := Lib.hid hz
  have ha := h.all
  clear hl hz h
  go_enter Try.func135, Try.ntmps135
  go_wp2
  go_loopw [5, 6] (fun v i wr => ∃ k : Nat, k ≤ n ∧ i = .int .i64 k ∧ OwnV wr w.heap.size v (suitF s (zs.take k)) ∧ Below w.heap.size w wr) (fun _ i _ => n - (intOf i).toNat)
  case atStart => exact ⟨0, Nat.zero_le _, rfl, OwnV.made w (Nat.le_refl _), (Below.refl _ _).alloc (Nat.le_refl _) _⟩
  case round =>
    obtain ⟨k, hk, rfl, ho, hb⟩ := hrel
    by_cases hlt : k < n
    · have hkz : k < zs.length := by rw [HL.out]; exact hlt
      obtain ⟨b, off, rfl, _, _, hc⟩ := (ha.below hb (Nat.le_refl _)).2 (by omega)
      have hck := hc k hlt
      obtain ⟨z0, z1⟩ := HZ.out k hlt
      have hkl : (k : Int) < (n : Int) := by omega
      have hlen : (suitF s (zs.take k)).length ≤ 1048576 := Nat.le_trans (suitF_le _ _) (by simp; omega)
      have hsize := hb.size
      by_cases he : zs.getD k 0 / 13 = s
      · have hs := Lib.hid (suitF_yes hkz he)
        have ht : (zs.getD k 0 / 13 == s) = true := by simpa using he
        generalize zs.getD k 0 = z at hck z0 z1 ht hs
        clear hc he
        go_wp2_with (at_builtin; refine wpList_push rfl _ _ rfl w.heap.size _ _ rfl ho z rfl hlen hsize ?_)
        intro v' w1 ho1 hb1
        rw [← hs.out] at ho1
        have hb2 := hb.trans hb1
        clear ho hb hb1 hs
        go_wp2
        go_roundw
        case rel => exact ⟨k + 1, by omega, by go_num, ho1, hb2⟩
        case measure => simp [intOf]; omega
      · have hs := Lib.hid (suitF_no hkz he)
        have ht : (zs.getD k 0 / 13 == s) = false := by simpa using he
        generalize zs.getD k 0 = z at hck z0 z1 ht
        clear hc he
        rw [← hs.out] at ho
        go_wp2
        go_roundw
        case rel => exact ⟨k + 1, by omega, by go_num, ho, hb⟩
        case measure => simp [intOf]; omega
    · rw [show zs.take k = zs from List.take_of_length_le (by rw [HL.out]; omega)] at ho
      go_wp2
      go_ret
      exact RetS.of_own ho hb

/-- What CardsOfSuit hands back. -/
def cardsV (s : Int) (zs : List Int) : List Int := if handB zs && inB s 0 3 then suitF s zs else []
theorem cardsV_yes {s : Int} {zs : List Int} (h : handB zs = true) (hs : inB s 0 3 = true) : cardsV s zs = suitF s zs := by simp [cardsV, h, hs]
theorem cardsV_no1 {s : Int} {zs : List Int} (h : handB zs = false) : cardsV s zs = [] := by simp [cardsV, h]
theorem cardsV_no2 {s : Int} {zs : List Int} (h : inB s 0 3 = false) : cardsV s zs = [] := by simp [cardsV, h]
theorem cardsV_le (s : Int) (zs : List Int) : (cardsV s zs).length ≤ zs.length := by
  unfold cardsV; split
  · exact suitF_le _ _
  · simp
theorem hand_bounds {zs : List Int} (h : handB zs = true) : zs.length ≤ 13 ∧ ∀ j, j < zs.length → 0 ≤ zs.getD j 0 ∧ zs.getD j 0 ≤ 51 := by
  simp only [handB, risingB, Bool.and_eq_true, decide_eq_true_eq] at h
  exact ⟨h.1, fun j hj => (h.2 j hj).1⟩
theorem RetS.empty_made (w w1 : World) (hb : Chg w w1 0 0) : RetS w [] (.returned (.slice (some ⟨w1.heap.size, 0, none⟩) 0 0)) (w1.alloc (.cells #[] 2)) :=
  ⟨_, 0, rfl, Nat.le_refl _, Plain.at_ _ _ _, Own.none_, hb.trans (Chg.of_alloc _ _ _ _)⟩
theorem RetS.of_later {w w1 w' : World} {zs : List Int} {e : Ending} (hb : Chg w w1 0 0) (h : RetS w1 zs e w') : RetS w zs e w' := by
  obtain ⟨A, c, he, h1, h2, h3, h4⟩ := h
  exact ⟨A, c, he, h1, h2, h3.more hb.size (Nat.le_refl _), hb.trans h4⟩


set_option maxHeartbeats 1000000 in
/-- impl.CardsOfSuit -/
theorem impl_CardsOfSuit (A : Option Addr) (n c : Nat) (s : Int) (zs : List Int) (lo hi : Nat) (w : World) (h : Rd w lo hi A n zs) :
    Calls Try.prog 119 #[.slice A n c, .int .i64 s] w (RetS w (cardsV s zs)) := by
  cases hh : handB zs with
  | false =>
    rw [cardsV_no1 hh]
    go_enter Try.func119, Try.ntmps119
    go_wp2_with (go_at_call 136; refine (impl_IsHand _ _ _ zs lo hi _ h).mono ?_; rintro e w' ⟨rfl, rfl⟩)
    go_ret
    exact RetS.of_own (OwnV.nil_ _ _) (Below.refl _ _)
  | true =>
    by_cases hs : 0 ≤ s ∧ s ≤ 3
    · rw [cardsV_yes hh (inB_true hs)]
      obtain ⟨s0, s1⟩ := hs
      have s2 : ¬ s < 0 := by omega
      have s3 : ¬ 4 ≤ s := by omega
      have hl := h.1
      have hb13 := (hand_bounds hh).1
      have hn : n ≤ 13 := by omega
      have HZ : Hid (∀ j, j < n → 0 ≤ zs.getD j 0 ∧ zs.getD j 0 ≤ 51) := by have := (hand_bounds hh).2; rw [h.1] at this; exact this
      have HL := Lib.hid hl
      have ha := h.all
      clear hl hb13
      go_enter Try.func119, Try.ntmps119
      go_wp2_with (go_at_call 136; refine (impl_IsHand _ _ _ zs lo hi _ h).mono ?_; rintro e w' ⟨rfl, rfl⟩)
      clear h hh
      go_loopw [5, 21] (fun v i wr => ∃ k : Nat, k ≤ n ∧ i = .int .i64 k ∧ OwnV wr w.heap.size v (suitF s (zs.take k)) ∧ Below w.heap.size w wr) (fun _ i _ => n - (intOf i).toNat)
      case atStart => exact ⟨0, Nat.zero_le _, rfl, OwnV.nil_ _ _, Below.refl _ _⟩
      case round =>
        obtain ⟨k, hk, rfl, ho, hb⟩ := hrel
        by_cases hlt : k < n
        · have hkz : k < zs.length := by rw [HL.out]; exact hlt
          obtain ⟨b, off, rfl, _, _, hc⟩ := (ha.below hb (Nat.le_refl _)).2 (by omega)
          have hck := hc k hlt
          obtain ⟨z0, z1⟩ := HZ.out k hlt
          have hkl : (k : Int) < (n : Int) := by omega
          have hlen : (suitF s (zs.take k)).length ≤ 1048576 := Nat.le_trans (suitF_le _ _) (by simp; omega)
          have hsize := hb.size
          by_cases he : zs.getD k 0 / 13 = s
          · have hs := Lib.hid (suitF_yes hkz he)
            have ht : (zs.getD k 0 / 13 == s) = true := by simpa using he
            generalize zs.getD k 0 = z at hck z0 z1 ht hs
            clear hc he
            go_wp2_with (first | (go_at_call 151; refine (suit _ _ z0 z1).mono ?_; rintro e w' ⟨rfl, rfl⟩) | (at_builtin; refine wpList_push rfl _ _ rfl w.heap.size _ _ rfl ho z rfl hlen hsize ?_))
            intro v' w1 ho1 hb1
            rw [← hs.out] at ho1
            have hb2 := hb.trans hb1
            clear ho hb hb1 hs
            go_wp2
            go_roundw
            case rel => exact ⟨k + 1, by omega, by go_num, ho1, hb2⟩
            case measure => simp [intOf]; omega
          · have hs := Lib.hid (suitF_no hkz he)
            have ht : (zs.getD k 0 / 13 == s) = false := by simpa using he
            generalize zs.getD k 0 = z at hck z0 z1 ht
            clear hc he
            rw [← hs.out] at ho
            go_wp2_with (go_at_call 151; refine (suit _ _ z0 z1).mono ?_; rintro e w' ⟨rfl, rfl⟩)
            go_roundw
            case rel => exact ⟨k + 1, by omega, by go_num, ho, hb⟩
            case measure => simp [intOf]; omega
        · rw [show zs.take k = zs from List.take_of_length_le (by rw [HL.out]; omega)] at ho
          go_wp2
          go_ret
          exact RetS.of_own ho hb
    · rw [cardsV_no2 (inB_false hs)]
      by_cases s2 : s < 0
      · clear hs
        go_enter Try.func119, Try.ntmps119
        go_wp2_with (go_at_call 136; refine (impl_IsHand _ _ _ zs lo hi _ h).mono ?_; rintro e w' ⟨rfl, rfl⟩)
        go_ret
        exact RetS.of_own (OwnV.nil_ _ _) (Below.refl _ _)
      · have s3 : 4 ≤ s := by omega
        clear hs
        go_enter Try.func119, Try.ntmps119
        go_wp2_with (go_at_call 136; refine (impl_IsHand _ _ _ zs lo hi _ h).mono ?_; rintro e w' ⟨rfl, rfl⟩)
        go_ret
        exact RetS.of_own (OwnV.nil_ _ _) (Below.refl _ _)


end

section
open Go.RowKit
set_option maxRecDepth 100000

/-! ### Lists -/
def hasB (zs : List Int) (x : Int) : Bool := decide (x ∈ zs)
theorem take_snoc (zs : List Int) (k : Nat) (h : k < zs.length) : zs.take (k + 1) = zs.take k ++ [zs.getD k 0] := by
  rw [List.take_succ_eq_append_getElem h]; simp [List.getD, List.getElem?_eq_getElem h]
theorem hasB_yes {zs : List Int} {x : Int} {k : Nat} (h : k < zs.length) (e : zs.getD k 0 = x) : hasB zs x = true := by
  simp only [hasB, decide_eq_true_eq]
  rw [← e]; simp only [List.getD, List.getElem?_eq_getElem h, Option.getD_some]; exact List.getElem_mem h
theorem hasB_no {zs : List Int} {x : Int} (h : ∀ j, j < zs.length → zs.getD j 0 ≠ x) : hasB zs x = false := by
  simp only [hasB, decide_eq_false_iff_not]
  intro hm
  obtain ⟨j, hj, e⟩ := List.getElem_of_mem hm
  exact h j hj (by simp [List.getD, List.getElem?_eq_getElem hj, e])
/-- A number is put ahead of the first greater one. -/
def ins (c : Int) : List Int → List Int
  | [] => [c]
  | z :: l => if c < z then c :: z :: l else z :: ins c l
def gtB (c : Int) (l : List Int) : Bool := l.any fun z => decide (c < z)
def insTo (c : Int) (l : List Int) : List Int := if gtB c l then ins c l else l
theorem ins_length (c : Int) : ∀ l : List Int, (ins c l).length = l.length + 1
  | [] => rfl
  | z :: l => by unfold ins; split <;> simp [ins_length c l]
theorem ins_not (c : Int) : ∀ l : List Int, gtB c l = false → ins c l = l ++ [c]
  | [], _ => rfl
  | z :: l, h => by
    simp only [gtB, List.any_cons, Bool.or_eq_false_iff, decide_eq_false_iff_not] at h
    unfold ins; rw [if_neg h.1, ins_not c l h.2]; rfl
theorem ins_snoc (c z : Int) : ∀ l : List Int, gtB c l = true → ins c (l ++ [z]) = ins c l ++ [z]
  | [], h => by simp [gtB] at h
  | y :: l, h => by
    by_cases e : c < y
    · simp [ins, e]
    · have h' : gtB c l = true := by simpa [gtB, e] using h
      simp [ins, e, ins_snoc c z l h']
theorem ins_snoc_now (c z : Int) (hz : c < z) : ∀ l : List Int, gtB c l = false → ins c (l ++ [z]) = l ++ [c] ++ [z]
  | [], _ => by simp [ins, hz]
  | y :: l, h => by
    simp only [gtB, List.any_cons, Bool.or_eq_false_iff, decide_eq_false_iff_not] at h
    simp [ins, h.1, ins_snoc_now c z hz l h.2]
theorem gtB_snoc (c z : Int) (l : List Int) : gtB c (l ++ [z]) = (gtB c l || decide (c < z)) := by simp [gtB]
theorem insTo_done {c z : Int} {l : List Int} (h : gtB c l = true) : insTo c (l ++ [z]) = insTo c l ++ [z] := by
  simp [insTo, gtB_snoc, h, ins_snoc c z l h]
theorem insTo_now {c z : Int} {l : List Int} (h : gtB c l = false) (hz : c < z) : insTo c (l ++ [z]) = insTo c l ++ [c] ++ [z] := by
  simp only [insTo, gtB_snoc, h, hz, decide_true, Bool.false_or, if_true, ins_snoc_now c z hz l h]; simp
theorem insTo_not {c z : Int} {l : List Int} (h : gtB c l = false) (hz : ¬ c < z) : insTo c (l ++ [z]) = insTo c l ++ [z] := by
  simp [insTo, gtB_snoc, h, hz]
theorem insTo_le (c : Int) (l : List Int) : (insTo c l).length ≤ l.length + 1 := by
  unfold insTo; split
  · rw [ins_length]; omega
  · omega
def dropF (x : Int) (zs : List Int) : List Int := zs.filter fun z => !decide (z = x)
theorem dropF_le (x : Int) (zs : List Int) : (dropF x zs).length ≤ zs.length := List.length_filter_le _ _
theorem dropF_no {x : Int} {zs : List Int} {k : Nat} (h : k < zs.length) (e : ¬ zs.getD k 0 = x) : dropF x (zs.take (k + 1)) = dropF x (zs.take k) ++ [zs.getD k 0] := by
  unfold dropF; rw [take_filter_succ _ _ _ h]; simp only [e, decide_false, Bool.not_false, if_true]
theorem dropF_yes {x : Int} {zs : List Int} {k : Nat} (h : k < zs.length) (e : zs.getD k 0 = x) : dropF x (zs.take (k + 1)) = dropF x (zs.take k) := by
  unfold dropF; rw [take_filter_succ _ _ _ h]; simp only [e, decide_true, Bool.not_true, Bool.false_eq_true, if_false, List.append_nil]

/-! ### The model's functions -/
set_option maxHeartbeats 400000 in
/-- spec.l01Has -/
theorem l01Has (A : Option Addr) (n c : Nat) (x : Int) (zs : List Int) (lo hi : Nat) (w : World) (h : Rd w lo hi A n zs) (hn : n ≤ 1048576) :
    Calls Try.prog 89 #[.slice A n c, .int .i64 x] w fun e w' => e = .returned (.bool (hasB zs x)) ∧ w = w' := by
  have HL := Lib.hid h.1
  go_enter Try.func89, Try.ntmps89
  go_wp2
  go_loop [5] (fun i => ∃ k : Nat, k ≤ n ∧ i = .int .i64 k ∧ Hid (∀ j, j < k → zs.getD j 0 ≠ x)) (fun i => n - (intOf i).toNat)
  case atStart => exact ⟨0, Nat.zero_le _, rfl, fun j hj => by omega⟩
  case round =>
    obtain ⟨k, hk, rfl, hr⟩ := hrel
    by_cases hlt : k < n
    · obtain ⟨b, off, rfl, _, _, hc⟩ := h.2 (by omega)
      have hck := hc k hlt
      have hkl : (k : Int) < (n : Int) := by omega
      have hkz : k < zs.length := by rw [HL.out]; exact hlt
      by_cases he : zs.getD k 0 = x
      · have hf := Lib.hid (hasB_yes hkz he)
        have ht : (zs.getD k 0 == x) = true := by simpa using he
        generalize zs.getD k 0 = z at hck ht
        clear hc he hr
        go_wp2
        go_ret
        exact ⟨ret_bool hf.out.symm, rfl⟩
      · have hr' : Hid (∀ j, j < k + 1 → zs.getD j 0 ≠ x) := by
          intro j hj
          by_cases e : j < k
          · exact hr.out j e
          · obtain rfl : j = k := by omega
            exact he
        have ht : (zs.getD k 0 == x) = false := by simpa using he
        generalize zs.getD k 0 = z at hck ht
        clear hc he hr
        go_wp2
        go_round
        case rel => exact ⟨k + 1, by omega, by go_num, hr'⟩
        case measure => simp [intOf]; omega
    · have hf : Hid (hasB zs x = false) := hasB_no (fun j hj => hr.out j (by rw [HL.out] at hj; omega))
      go_wp2
      go_ret
      exact ⟨ret_bool hf.out.symm, rfl⟩


set_option maxHeartbeats 1600000 in
/-- spec.l01Put -/
theorem l01PutV (A : Option Addr) (n c : Nat) (s : Int) (zs : List Int) (lo hi : Nat) (w : World) (h : Rd w lo hi A n zs) (hn : n ≤ 1048570) :
    Calls Try.prog 178 #[.slice A n c, .int .i64 s] w (RetV w (ins s zs)) := by
  have HL := Lib.hid h.1
  have ha := h.all
  clear h
  go_enter Try.func178, Try.ntmps178
  go_wp2
  go_loopw [5, 6, 7] (fun v d i wr => ∃ k : Nat, k ≤ n ∧ i = .int .i64 k ∧ d = .bool (gtB s (zs.take k)) ∧ OwnV wr w.heap.size v (insTo s (zs.take k)) ∧ Below w.heap.size w wr) (fun _ _ i _ => n - (intOf i).toNat)
  case atStart => exact ⟨0, Nat.zero_le _, rfl, rfl, OwnV.made w (Nat.le_refl _), (Below.refl _ _).alloc (Nat.le_refl _) _⟩
  case round =>
    obtain ⟨k, hk, rfl, rfl, ho, hb⟩ := hrel
    have hlen : (insTo s (zs.take k)).length ≤ 1048572 := Nat.le_trans (insTo_le _ _) (by simp; omega)
    by_cases hlt : k < n
    · have hkz : k < zs.length := by rw [HL.out]; exact hlt
      obtain ⟨b, off, rfl, _, hbl, hc⟩ := (ha.below hb (Nat.le_refl _)).2 (by omega)
      have hck := hc k hlt
      have hkl : (k : Int) < (n : Int) := by omega
      have hsize := hb.size
      have hts := Lib.hid (take_snoc zs k hkz)
      cases hd : gtB s (zs.take k) with
      | true =>
        have hs := Lib.hid (insTo_done (z := zs.getD k 0) hd)
        have hg : Hid (gtB s (zs.take k ++ [zs.getD k 0]) = true) := by show _ = true; rw [gtB_snoc, hd]; rfl
        generalize zs.getD k 0 = z at hck hs hg hts
        clear hc hd
        go_wp2_with (at_builtin; refine wpList_push rfl (.tmp 29) (.tmp 34) rfl w.heap.size _ _ rfl ho z rfl (by omega) hsize ?_; intro v' w1 ho1 hb1)
        rw [← hs.out, ← hts.out] at ho1
        rw [← hts.out] at hg
        have hb2 := hb.trans hb1
        clear ho hb hb1 hs
        go_roundw
        case rel => exact ⟨k + 1, by omega, by go_num, congrArg Value.bool hg.out.symm, ho1, hb2⟩
        case measure => simp [intOf]; omega
      | false =>
        by_cases hz : s < zs.getD k 0
        · have hs := Lib.hid (insTo_now (z := zs.getD k 0) hd hz)
          have hg : Hid (gtB s (zs.take k ++ [zs.getD k 0]) = true) := by show _ = true; rw [gtB_snoc, hd, decide_eq_true hz]; rfl
          generalize zs.getD k 0 = z at hck hs hg hts hz
          have hck1 : ∀ w1, Below w.heap.size wr w1 → w1.cell? ⟨b, off + k, none⟩ = some (.int .i64 z) := fun w1 hb1 => by
            rw [World.cell?_of_block (hb1.block b (by omega))]; exact hck
          have HC := Lib.hid hck1
          clear hc hd hck1
          go_wp2_with (first | (at_builtin; refine wpList_push rfl (.tmp 25) (.tmp 27) rfl w.heap.size _ _ rfl ho s rfl (by omega) hsize ?_; intro v1 w1 ho1 hb1; have hc1 := HC.out w1 hb1; have hz1 := (hb.trans hb1).size; have hl1 : (insTo s (zs.take k) ++ [s]).length ≤ 1048576 := by simp; omega) | (at_builtin; refine wpList_push rfl (.tmp 29) (.tmp 34) rfl w.heap.size _ _ rfl ho1 z rfl hl1 hz1 ?_; intro v2 w2 ho2 hb2))
          rw [← hs.out, ← hts.out] at ho2
          rw [← hts.out] at hg
          have hb3 := (hb.trans hb1).trans hb2
          clear ho hb hb1 hs ho1 hc1 hb2
          go_roundw
          case rel => exact ⟨k + 1, by omega, by go_num, congrArg Value.bool hg.out.symm, ho2, hb3⟩
          case measure => simp [intOf]; omega
        · have hs := Lib.hid (insTo_not (z := zs.getD k 0) hd hz)
          have hg : Hid (gtB s (zs.take k ++ [zs.getD k 0]) = false) := by show _ = false; rw [gtB_snoc, hd, decide_eq_false hz]; rfl
          generalize zs.getD k 0 = z at hck hs hg hts hz
          clear hc hd
          go_wp2_with (at_builtin; refine wpList_push rfl (.tmp 29) (.tmp 34) rfl w.heap.size _ _ rfl ho z rfl (by omega) hsize ?_; intro v' w1 ho1 hb1)
          rw [← hs.out, ← hts.out] at ho1
          rw [← hts.out] at hg
          have hb2 := hb.trans hb1
          clear ho hb hb1 hs
          go_roundw
          case rel => exact ⟨k + 1, by omega, by go_num, congrArg Value.bool hg.out.symm, ho1, hb2⟩
          case measure => simp [intOf]; omega
    · have hsize := hb.size
      rw [show zs.take k = zs from List.take_of_length_le (by rw [HL.out]; omega)] at ho hlen
      rw [show zs.take k = zs from List.take_of_length_le (by rw [HL.out]; omega)]
      cases hd : gtB s zs with
      | true =>
        have hs : Hid (insTo s zs = ins s zs) := by simp [Hid, insTo, hd]
        rw [hs.out] at ho
        clear hs hd
        go_wp2
        go_ret
        exact ⟨_, rfl, ho, hb⟩
      | false =>
        have hs : Hid (insTo s zs ++ [s] = ins s zs) := by show _ = _; rw [ins_not s zs hd]; simp [insTo, hd]
        clear hd
        go_wp2_with (at_builtin; refine wpList_push rfl (.tmp 38) (.tmp 40) rfl w.heap.size _ _ rfl ho s rfl (by omega) hsize ?_; intro v' w1 ho1 hb1)
        rw [hs.out] at ho1
        go_ret
        exact ⟨_, rfl, ho1, hb.trans hb1⟩

theorem l01Put (A : Option Addr) (n c : Nat) (s : Int) (zs : List Int) (lo hi : Nat) (w : World) (h : Rd w lo hi A n zs) (hn : n ≤ 1048570) :
    Calls Try.prog 178 #[.slice A n c, .int .i64 s] w (RetS w (ins s zs)) :=
  (l01PutV A n c s zs lo hi w h hn).mono fun _ _ h => RetS.of_V h

/-! ### What HandWith and HandWithout hand back -/
/-- The code of HandWith. -/
def withC (zs : List Int) (x : Int) : Int := if handB zs then (if inB x 0 51 then (if hasB zs x then 5 else if zs.length = 13 then 3 else 0) else 2) else 1
def withV (zs : List Int) (x : Int) : List Int := if withC zs x = 0 then ins x zs else []
def withoutC (zs : List Int) (x : Int) : Int := if handB zs then (if hasB zs x then 0 else 4) else 1
def withoutV (zs : List Int) (x : Int) : List Int := if withoutC zs x = 0 then dropF x zs else []
theorem hand_len {zs : List Int} (h : handB zs = true) : zs.length ≤ 13 := (hand_bounds h).1
theorem withV_le (zs : List Int) (x : Int) : (withV zs x).length ≤ 14 := by
  unfold withV
  split
  · rename_i h
    cases hh : handB zs with
    | true => rw [ins_length]; have := hand_len hh; omega
    | false => simp [withC, hh] at h
  · simp
theorem withoutV_le (zs : List Int) (x : Int) : (withoutV zs x).length ≤ 13 := by
  unfold withoutV
  split
  · rename_i h
    cases hh : handB zs with
    | true => have := hand_len hh; have := dropF_le x zs; omega
    | false => simp [withoutC, hh] at h
  · simp
theorem with_of {zs : List Int} {x k : Int} {l : List Int} (hk : withC zs x = k) (hl : withV zs x = l) : ∀ (w : World) (e : Ending) (w' : World), RetSI w l k e w' → RetSI w (withV zs x) (withC zs x) e w' := by
  intro w e w' h; rw [hk, hl]; exact h
theorem without_of {zs : List Int} {x k : Int} {l : List Int} (hk : withoutC zs x = k) (hl : withoutV zs x = l) : ∀ (w : World) (e : Ending) (w' : World), RetSI w l k e w' → RetSI w (withoutV zs x) (withoutC zs x) e w' := by
  intro w e w' h; rw [hk, hl]; exact h
theorem RetSI.empty_made (w w1 : World) (k : Int) (hb : Chg w w1 0 0) : RetSI w [] k (.returned (.tuple #[.slice (some ⟨w1.heap.size, 0, none⟩) 0 0, .int .i64 k])) (w1.alloc (.cells #[] 2)) :=
  ⟨_, 0, rfl, Nat.le_refl _, Plain.at_ _ _ _, Own.none_, hb.trans (Chg.of_alloc _ _ _ _)⟩
theorem RetSI.of_S {w w1 w' : World} {zs : List Int} {A : Option Addr} {m c : Nat} {k : Int} (hb : Chg w w1 0 0) (h : RetS w1 zs (.returned (.slice A m c)) w') : RetSI w zs k (.returned (.tuple #[.slice A m c, .int .i64 k])) w' := by
  obtain ⟨A', c', he, h1, h2, h3, h4⟩ := h
  injection he with he
  injection he with e1 e2 e3
  subst e1 e2 e3
  exact ⟨_, _, rfl, h1, h2, h3.more hb.size (Nat.le_refl _), hb.trans h4⟩
theorem RetSI.nil_ {w w1 : World} {k : Int} (hb : Chg w w1 0 0) : RetSI w [] k (.returned (.tuple #[.slice none 0 0, .int .i64 k])) w1 :=
  ⟨none, 0, rfl, Nat.le_refl _, Plain.nil_, Own.none_, hb⟩



end

section
open Go.RowKit
set_option maxRecDepth 100000




/-- The place of x in an increasing list. -/
structure Place (zs : List Int) (x : Int) (k : Nat) : Prop where
  le : k ≤ zs.length
  below : ∀ j, j < k → zs.getD j 0 < x
  above : ∀ j, k ≤ j → j < zs.length → x ≤ zs.getD j 0

def RetPlace (zs : List Int) (x : Int) (w : World) (e : Ending) (w' : World) : Prop :=
  ∃ k : Nat, Place zs x k ∧ e = .returned (.tuple #[.int .i64 k, .bool (decide (k < zs.length ∧ zs.getD k 0 = x))]) ∧ w = w'


theorem Grow_none (w : World) : Calls Try.prog 122 #[.slice none 0 0, .int .i64 0] w (RetV w []) := by
  go_enter Try.func122, Try.ntmps122
  go_wp2
  go_ret
  exact ⟨_, rfl, OwnV.nil_ _ _, Below.refl _ _⟩

set_option maxHeartbeats 1000000 in
theorem Grow_some (n : Nat) (w : World) (h0 : 0 < n) (hn : n ≤ 1048576) : Calls Try.prog 122 #[.slice none 0 0, .int .i64 (n : Int)] w (RetV w []) := by
  obtain ⟨i0, hi0, hz0, hz1, hz2⟩ := info_parts cells_info
  have hold : (Builtin.firstCells i0.size 0 (.slice none 0 0)).run Try.prog w.drew = .ok ([] : List Value).toArray w.drew := run_firstCells_none w.drew i0.size 0 0 0
  have hrz : ∀ ty, (Builtin.append_ #[27, 3] ty #[.slice none 0 0, .int .i64 (n : Int)]).run Try.prog w =
      .ok (.slice (some ⟨w.heap.size, 0, none⟩) n (grownCap w n 0 2)) (w.drew.alloc (.cells (([] : List Value).toArray ++ Builtin.zeroCells (Value.int .i64 0).cells n ++ Builtin.zeroCells (Value.int .i64 0).cells (grownCap w n 0 2 - n)) 2)) := fun ty => by
    have h := Lib.run_append_grow_zeros w 27 3 ty 2 i0 (.int .i64 0) .i64 .i64 Try.underlying27 Try.underlying3 hi0 hz0 none 0 0 [] hold n h0 (by omega) (by omega) (by omega)
      (by rw [hz2]; omega) (by rw [hz2]; exact growslice_fits (by omega) (by omega))
    simpa using h
  have hG := grownCap_ge w n 0 2
  have hG63 := grownCap_le_maxLen w n 0 2 (by unfold maxLen; omega)
  have hsz : (([] : List Value).toArray ++ Builtin.zeroCells (Value.int .i64 0).cells n ++ Builtin.zeroCells (Value.int .i64 0).cells (grownCap w n 0 2 - n)).size = grownCap w n 0 2 := by
    have : (Value.int .i64 0).cells.size = 1 := rfl
    simp [size_zeroCells, this]; omega
  generalize (([] : List Value).toArray ++ Builtin.zeroCells (Value.int .i64 0).cells n ++ Builtin.zeroCells (Value.int .i64 0).cells (grownCap w n 0 2 - n)) = C at hrz hsz
  generalize grownCap w n 0 2 = G at hrz hsz hG hG63
  have hp : (0 : Int) < (n : Int) := by omega
  have HS := Lib.hid hsz
  have hG63' : G ≤ 9223372036854775807 := by unfold maxLen at hG63; exact hG63
  clear hsz hold
  go_enter Try.func122, Try.ntmps122
  go_wp2_with (at_builtin; refine Lib.wpList_append_run _ rfl _ _ _ _ rfl _ _ rfl rfl _ _ (hrz _) ?_)
  all_goals
    go_ret
    refine ⟨_, rfl, ⟨by simp, .inr ⟨w.heap.size, G, C, rfl, Nat.le_refl _, ?_, Nat.zero_le _, hG63, by simpa using HS.out, by simp⟩⟩, ?_⟩
    · exact heap_alloc_new w _
    · exact ((Below.refl _ _).alloc (Nat.le_refl _) _).drew

theorem Grow_nil (n : Nat) (w : World) (hn : n ≤ 1048576) : Calls Try.prog 122 #[.slice none 0 0, .int .i64 (n : Int)] w (RetV w []) := by
  rcases Nat.eq_zero_or_pos n with h | h
  · subst h; exact Grow_none w
  · exact Grow_some n w h hn

/-- 'out = append(out, xs...)', out the call's own, xs any slice that reads as ys. -/
theorem wpList_cat {w : World} {ops : Array Oper} {rest : List Oper} {o : Oper} {a : Act} {Q : Exit → Act → World → Prop} (hgd : o.guard = none) (s x : Operand)
    (ho : o.op = .call { callee := .builtin .append, args := #[s, x], argTypes := #[27, 27] })
    (base : Nat) (v : Value) (zs : List Int) (hs : a.eval s = v) (hown : OwnV w base v zs) (lo hi : Nat) (A : Option Addr) (m c : Nat) (ys : List Int)
    (hx : a.eval x = .slice A m c) (hnil : A = none → c = 0) (hr : Rd w lo hi A m ys) (hn : zs.length + m ≤ 1048576) (hbase : base ≤ w.heap.size)
    (h : ∀ v' w', OwnV w' base v' (zs ++ ys) → Below base w w' → wpList Try.prog ops Q rest (a.put o.dst v') w') : wpList Try.prog ops Q (o :: rest) a w := by
  obtain ⟨i0, hi0, hz0, hz1, hz2⟩ := info_parts cells_info
  have hm := hr.1
  cases A with
  | none =>
    have h0 : m = 0 := by
      rcases Nat.eq_zero_or_pos m with e | e
      · exact e
      · obtain ⟨b, off, e', _⟩ := hr.2 e; cases e'
    subst h0
    have hy : ys = [] := List.eq_nil_of_length_eq_zero hm
    subst hy
    obtain rfl := hnil rfl
    refine wpList_append_own_none hgd s x 27 ho base 2 i0 1 Try.underlying27 hi0 v zs.length (zs.map (Value.int .i64)) hs hown hx ?_
    exact h v w (by simpa using hown) (Below.refl _ _)
  | some ad =>
    refine wpList_append_own _ hgd s x 27 ho base 2 i0 (.int .i64 0) 1 8 Try.underlying27 hi0 hz0 hz1 hz2 rfl (by decide) v zs.length (zs.map (Value.int .i64)) hs hown
      ad m c (ys.map (Value.int .i64)) hx (by simpa using hm) ?_ ?_ ?_ ?_ hbase ?_
    · intro j u hj
      have hj' : j < ys.length := by
        rcases Nat.lt_or_ge j ys.length with e | e
        · exact e
        · rw [List.getElem?_eq_none (by simpa using e)] at hj; cases hj
      obtain ⟨b, off, e, _, _, hc⟩ := hr.2 (by omega)
      injection e with e
      subst e
      have hplain : (⟨b, off, none⟩ : Addr).add j = ⟨b, off + j, none⟩ := by unfold Addr.add; split <;> simp_all
      rw [hplain, hc j (by omega)]
      simp [List.getElem?_eq_getElem hj'] at hj
      rw [← hj]
      simp [List.getD, List.getElem?_eq_getElem hj']
    · intro u hu
      obtain ⟨q, _, rfl⟩ := List.mem_map.1 hu
      rfl
    · unfold maxLen; omega
    · omega
    · intro v' w' h1 h2 _
      refine h v' w' ?_ ((Below.refl _ _).grown h2 hbase hown.block)
      unfold OwnV
      rw [List.length_append, List.map_append, hm]
      exact h1

/-- The first k parts, one behind the other. -/
def catTo (pz : Nat → List Int) (k : Nat) : List Int := ((List.range k).map pz).flatten
theorem catTo_succ (pz : Nat → List Int) (k : Nat) : catTo pz (k + 1) = catTo pz k ++ pz k := by simp [catTo, List.range_succ]
theorem catTo_le (pz : Nat → List Int) : ∀ {k m : Nat}, k ≤ m → (catTo pz k).length ≤ (catTo pz m).length := by
  intro k m h
  induction h with
  | refl => exact Nat.le_refl _
  | step _ ih => rw [catTo_succ]; simp; omega

set_option maxHeartbeats 1600000 in
/-- slices.Concat of m parts that lie in the block g. -/
theorem Concat (g m c : Nat) (pa : Nat → Option Addr) (pn pc : Nat → Nat) (pz : Nat → List Int) (w : World)
    (hcell : ∀ j, j < m → w.cell? ⟨g, j, none⟩ = some (.slice (pa j) (pn j) (pc j))) (hrd : ∀ j, j < m → Rd w 0 w.heap.size (pa j) (pn j) (pz j)) (hpc : ∀ j, j < m → pa j = none → pc j = 0)
    (hm : m ≤ 1048576) (hn : (catTo pz m).length ≤ 1048576) :
    Calls Try.prog 70 #[.slice (some ⟨g, 0, none⟩) m c] w (RetS w (catTo pz m)) := by
  have HC := Lib.hid hcell
  have HR := Lib.hid hrd
  have HP := Lib.hid hpc
  clear hcell hrd hpc
  go_enter Try.func70, Try.ntmps70
  go_wp2
  go_loop [3, 11] (fun s i => ∃ k : Nat, k ≤ m ∧ i = .int .i64 k ∧ s = .int .i64 ((catTo pz k).length : Int)) (fun _ i => m - (intOf i).toNat)
  case atStart => exact ⟨0, Nat.zero_le _, rfl, rfl⟩
  case round =>
    obtain ⟨k, hk, rfl, rfl⟩ := hrel
    have hle := catTo_le pz hk
    by_cases hlt : k < m
    · have hck := HC.out k hlt
      have hlk : (k : Int) < (m : Int) := by omega
      have hsum : (catTo pz (k + 1)).length = (catTo pz k).length + pn k := by rw [catTo_succ, List.length_append, (HR.out k hlt).1]
      have hle2 := catTo_le pz (show k + 1 ≤ m from hlt)
      have HS := Lib.hid hsum
      have hb1 : (catTo pz k).length + pn k ≤ 1048576 := by omega
      clear hsum hle2
      generalize pa k = ak at hck
      generalize pc k = ck at hck
      generalize pn k = nk at hck HS hb1
      generalize (catTo pz k).length = lk at hle HS hb1
      go_wp2
      go_round
      case rel => exact ⟨k + 1, by omega, by go_num, by rw [HS.out]; go_num⟩
      case measure => simp [intOf]; omega
    · obtain rfl : k = m := by omega
      go_wp2_with (go_at_call 122; refine (Grow_nil _ _ hn).mono ?_; rintro e w1 ⟨v1, rfl, ho1, hb1⟩)
      go_loopw [6, 27] (fun v i wr => ∃ j : Nat, j ≤ k ∧ i = .int .i64 j ∧ OwnV wr w.heap.size v (catTo pz j) ∧ Below w.heap.size w wr) (fun _ i _ => k - (intOf i).toNat)
      case atStart => exact ⟨0, Nat.zero_le _, rfl, ho1, hb1⟩
      case round =>
        obtain ⟨j, hj, rfl, ho, hb⟩ := hrel
        by_cases hlt2 : j < k
        · have hck := HC.out j hlt2
          have hgl := lt_of_cell hck
          have hck2 : wr.cell? ⟨g, j, none⟩ = some (.slice (pa j) (pn j) (pc j)) := by rw [World.cell?_of_block (hb.block g hgl)]; exact hck
          have hlk : (j : Int) < (k : Int) := by omega
          have hr := (HR.out j hlt2).below hb (Nat.le_refl _)
          have hp := Lib.hid (HP.out j hlt2)
          have hsum := Lib.hid (catTo_succ pz j)
          have hln : (catTo pz j).length + pn j ≤ 1048576 := by
            have e1 := catTo_le pz (show j + 1 ≤ k from hlt2)
            rw [catTo_succ, List.length_append, (HR.out j hlt2).1] at e1
            omega
          have hsize := hb.size
          clear hck
          generalize pa j = ak at hck2 hr hp
          generalize pc j = ck at hck2 hp
          generalize pn j = nk at hck2 hr hln
          go_wp2_with (at_builtin; refine wpList_cat rfl _ _ rfl w.heap.size _ _ rfl ho 0 w.heap.size ak nk ck (pz j) rfl hp.out hr hln hsize ?_; intro v' w2 ho2 hb2)
          rw [← hsum.out] at ho2
          have hb3 := hb.trans hb2
          clear ho hb hb2 hr
          go_roundw
          case rel => exact ⟨j + 1, by omega, by go_num, ho2, hb3⟩
          case measure => simp [intOf]; omega
        · obtain rfl : j = k := by omega
          go_wp2
          go_ret
          exact RetS.of_own ho hb
end

section
open Go.RowKit
set_option maxRecDepth 100000

/-! ### Lists -/
theorem hand_lt {zs : List Int} (h : handB zs = true) : ∀ a b, a < b → b < zs.length → zs.getD a 0 < zs.getD b 0 := by
  simp only [handB, risingB, Bool.and_eq_true, decide_eq_true_eq] at h
  intro a b hab hb
  induction b with
  | zero => omega
  | succ b ih =>
    have h1 := (h.2 (b + 1) hb).2 (by omega)
    rw [Nat.add_sub_cancel] at h1
    by_cases e : a = b
    · subst e; exact h1
    · exact Int.lt_trans (ih (by omega) (by omega)) h1
theorem hand_mono {zs : List Int} (h : handB zs = true) : ∀ a b, a ≤ b → b < zs.length → zs.getD a 0 ≤ zs.getD b 0 := by
  intro a b hab hb
  by_cases e : a = b
  · subst e; exact Int.le_refl _
  · exact Int.le_of_lt (hand_lt h a b (by omega) hb)
theorem getD_eq {zs : List Int} {j : Nat} (h : j < zs.length) : zs.getD j 0 = zs[j] := by simp [List.getD, List.getElem?_eq_getElem h]
/-- The found place tells membership. -/
theorem place_has {zs : List Int} {x : Int} {k : Nat} (p : Place zs x k) (hl : ∀ a b, a < b → b < zs.length → zs.getD a 0 < zs.getD b 0) : decide (k < zs.length ∧ zs.getD k 0 = x) = hasB zs x := by
  by_cases h : k < zs.length ∧ zs.getD k 0 = x
  · rw [decide_eq_true h, hasB_yes h.1 h.2]
  · rw [decide_eq_false h]
    refine (hasB_no fun j hj e => ?_).symm
    by_cases hjk : j < k
    · have := p.below j hjk; omega
    · by_cases hjk2 : j = k
      · subst hjk2; exact h ⟨hj, e⟩
      · have h1 := p.above k (Nat.le_refl _) (by omega)
        have h2 := hl k j (by omega) hj
        omega
theorem ins_split (c : Int) : ∀ (l r : List Int), (∀ z ∈ l, ¬ c < z) → (∀ z, r.head? = some z → c < z) → ins c (l ++ r) = l ++ c :: r
  | [], [], _, _ => rfl
  | [], z :: r, _, h => by simp [ins, h z rfl]
  | y :: l, r, h1, h2 => by
    have hy := h1 y (by simp)
    simp only [List.cons_append, ins, if_neg hy, ins_split c l r (fun z hz => h1 z (by simp [hz])) h2]
theorem mem_take_lt {zs : List Int} {k : Nat} {x : Int} (p : Place zs x k) : ∀ z ∈ zs.take k, z < x := by
  intro z hz
  obtain ⟨j, hj, e⟩ := List.getElem_of_mem hz
  have hj2 : j < k ∧ j < zs.length := by simp at hj; omega
  have := p.below j hj2.1
  rw [getD_eq hj2.2] at this
  rw [← e, List.getElem_take]; exact this
theorem place_ins {zs : List Int} {x : Int} {k : Nat} (p : Place zs x k) (hn : ¬ (k < zs.length ∧ zs.getD k 0 = x)) : zs.take k ++ x :: zs.drop k = ins x zs := by
  have h := ins_split x (zs.take k) (zs.drop k) (fun z hz => by have := mem_take_lt p z hz; omega) (fun z hz => by
    rw [List.head?_drop] at hz
    have hk : k < zs.length := by
      rcases Nat.lt_or_ge k zs.length with e | e
      · exact e
      · rw [List.getElem?_eq_none e] at hz; cases hz
    have h1 := p.above k (Nat.le_refl _) hk
    have h2 : zs.getD k 0 = z := by simp [List.getD, hz]
    have h3 : zs.getD k 0 ≠ x := fun e => hn ⟨hk, e⟩
    omega)
  rw [List.take_append_drop] at h
  exact h.symm
theorem place_drop {zs : List Int} {x : Int} {k : Nat} (p : Place zs x k) (hl : ∀ a b, a < b → b < zs.length → zs.getD a 0 < zs.getD b 0) (hk : k < zs.length) (he : zs.getD k 0 = x) : zs.take k ++ zs.drop (k + 1) = dropF x zs := by
  have e : zs = zs.take k ++ (zs.getD k 0 :: zs.drop (k + 1)) := by
    rw [getD_eq hk, List.getElem_cons_drop hk, List.take_append_drop]
  have h1 : dropF x (zs.take k) = zs.take k := by
    unfold dropF
    rw [List.filter_eq_self]
    intro z hz
    have := mem_take_lt p z hz
    have : z ≠ x := by omega
    simp [this]
  have h2 : dropF x (zs.drop (k + 1)) = zs.drop (k + 1) := by
    unfold dropF
    rw [List.filter_eq_self]
    intro z hz
    obtain ⟨j, hj, e⟩ := List.getElem_of_mem hz
    rw [List.getElem_drop] at e
    have hj2 : k + 1 + j < zs.length := by simp at hj; omega
    have h3 := hl k (k + 1 + j) (by omega) hj2
    rw [he, getD_eq hj2, e] at h3
    have : z ≠ x := by omega
    simp [this]
  have h3 : dropF x zs = dropF x (zs.take k) ++ dropF x (zs.getD k 0 :: zs.drop (k + 1)) := by
    conv => lhs; rw [e]
    simp only [dropF, List.filter_append]
  have h4 : dropF x (zs.getD k 0 :: zs.drop (k + 1)) = dropF x (zs.drop (k + 1)) := by rw [he]; simp [dropF]
  rw [h3, h4, h1, h2]

/-! ### Cuts of a slice; Concat of what HandWith and HandWithout lay before it -/
theorem Rd.take {w : World} {lo hi : Nat} {A : Option Addr} {n k : Nat} {zs : List Int} (h : Rd w lo hi A n zs) (hk : k ≤ n) : Rd w lo hi A k (zs.take k) := by
  refine ⟨by simp [h.1]; omega, fun hp => ?_⟩
  obtain ⟨b, off, e, h1, h2, hc⟩ := h.2 (by omega)
  refine ⟨b, off, e, h1, h2, fun j hj => ?_⟩
  rw [hc j (by omega)]
  simp [List.getD, hj]
theorem Rd.drop {w : World} {lo hi b off n k : Nat} {zs : List Int} (A : Option Addr) (h : Rd w lo hi (some ⟨b, off, none⟩) n zs) (hk : k ≤ n) (hA : k < n → A = some ⟨b, off + k, none⟩) : Rd w lo hi A (n - k) (zs.drop k) := by
  refine ⟨by simp [h.1], fun hp => ?_⟩
  obtain ⟨b', off', e, h1, h2, hc⟩ := h.2 (by omega)
  injection e with e
  injection e with e1 e2
  subst e1 e2
  refine ⟨b, off + k, hA (by omega), h1, h2, fun j hj => ?_⟩
  rw [Nat.add_assoc, hc (k + j) (by omega)]
  simp [List.getD, List.getElem?_drop]

def three {α : Type} (a b c : α) : Nat → α
  | 0 => a | 1 => b | _ => c
theorem catTo_three (a b c : List Int) : catTo (three a b c) 3 = a ++ (b ++ c) := by simp [catTo, three, List.range_succ]
theorem catTo_two (a b c : List Int) : catTo (three a b c) 2 = a ++ b := by simp [catTo, three, List.range_succ]

theorem Concat3 (x : Int) (A0 A2 : Option Addr) (n0 c0 n2 c2 : Nat) (z0 z2 : List Int) (lo hi : Nat) (w : World) (h0 : Rd w lo hi A0 n0 z0) (h2 : Rd w lo hi A2 n2 z2) (e0 : A0 = none → c0 = 0) (e2 : A2 = none → c2 = 0) (hn : n0 + n2 ≤ 1048570) :
    Calls Try.prog 70 #[.slice (some ⟨w.heap.size + 1, 0, none⟩) 3 3] ((w.alloc (.cells #[.int .i64 x] 2)).alloc (.cells #[.slice A0 n0 c0, .slice (some ⟨w.heap.size, 0, none⟩) 1 1, .slice A2 n2 c2] 27)).drew (RetS w (z0 ++ x :: z2)) := by
  generalize hW : ((w.alloc (.cells #[.int .i64 x] 2)).alloc (.cells #[.slice A0 n0 c0, .slice (some ⟨w.heap.size, 0, none⟩) 1 1, .slice A2 n2 c2] 27)).drew = W
  have hb : Chg w W 0 0 := by
    rw [← hW]
    exact (Chg.of_alloc w _ 0 0).trans ((Chg.of_alloc _ _ 0 0).trans (Chg.drewN _ 1 0 0))
  have hg : ∀ j, W.cell? ⟨w.heap.size + 1, j, none⟩ = (#[.slice A0 n0 c0, .slice (some ⟨w.heap.size, 0, none⟩) 1 1, .slice A2 n2 c2] : Array Value)[j]? := by
    intro j
    rw [← hW]
    simp
  have h1 : Rd W 0 W.heap.size (some ⟨w.heap.size, 0, none⟩) 1 [x] := by
    have : Own (w.alloc (.cells #[.int .i64 x] 2)) w.heap.size (w.alloc (.cells #[.int .i64 x] 2)).heap.size (some ⟨w.heap.size, 0, none⟩) 1 [x] := Own.of_alloc w #[.int .i64 x] 1 [x] rfl (fun j hj => by
      obtain rfl : j = 0 := by omega
      rfl)
    have h := this.rd.still ((Chg.of_alloc _ (.cells #[.slice A0 n0 c0, .slice (some ⟨w.heap.size, 0, none⟩) 1 1, .slice A2 n2 c2] 27) 0 0).trans (Chg.drewN _ 1 0 0))
    have h' := h.all
    rw [← hW]
    exact h'
  have hc := Concat (w.heap.size + 1) 3 3 (three A0 (some ⟨w.heap.size, 0, none⟩) A2) (three n0 1 n2) (three c0 1 c2) (three z0 [x] z2) W
    (fun j hj => by
      rw [hg j]
      match j, hj with
      | 0, _ => rfl
      | 1, _ => rfl
      | 2, _ => rfl)
    (fun j hj => by
      match j, hj with
      | 0, _ => exact (h0.still hb).all
      | 1, _ => exact h1
      | 2, _ => exact (h2.still hb).all)
    (fun j hj => by
      match j, hj with
      | 0, _ => exact e0
      | 1, _ => intro e; cases e
      | 2, _ => exact e2)
    (by omega) (by rw [catTo_three]; simp [h0.1, h2.1]; omega)
  rw [catTo_three] at hc
  exact hc.mono fun e w' h => RetS.of_later hb h

theorem Concat2 (A0 A1 : Option Addr) (n0 c0 n1 c1 : Nat) (z0 z1 : List Int) (lo hi : Nat) (w : World) (h0 : Rd w lo hi A0 n0 z0) (h1 : Rd w lo hi A1 n1 z1) (e0 : A0 = none → c0 = 0) (e1 : A1 = none → c1 = 0) (hn : n0 + n1 ≤ 1048570) :
    Calls Try.prog 70 #[.slice (some ⟨w.heap.size, 0, none⟩) 2 2] (w.alloc (.cells #[.slice A0 n0 c0, .slice A1 n1 c1] 27)).drew (RetS w (z0 ++ z1)) := by
  generalize hW : (w.alloc (.cells #[.slice A0 n0 c0, .slice A1 n1 c1] 27)).drew = W
  have hb : Chg w W 0 0 := by
    rw [← hW]
    exact (Chg.of_alloc w _ 0 0).trans (Chg.drewN _ 1 0 0)
  have hg : ∀ j, W.cell? ⟨w.heap.size, j, none⟩ = (#[.slice A0 n0 c0, .slice A1 n1 c1] : Array Value)[j]? := by
    intro j
    rw [← hW]
    simp
  have hc := Concat w.heap.size 2 2 (three A0 A1 A1) (three n0 n1 n1) (three c0 c1 c1) (three z0 z1 z1) W
    (fun j hj => by
      rw [hg j]
      match j, hj with
      | 0, _ => rfl
      | 1, _ => rfl)
    (fun j hj => by
      match j, hj with
      | 0, _ => exact (h0.still hb).all
      | 1, _ => exact (h1.still hb).all)
    (fun j hj => by
      match j, hj with
      | 0, _ => exact e0
      | 1, _ => exact e1)
    (by omega) (by rw [catTo_two]; simp [h0.1, h1.1]; omega)
  rw [catTo_two] at hc
  exact hc.mono fun e w' h => RetS.of_later hb h






end

section
open Go.RowKit
set_option maxRecDepth 100000



end

section
open Go.RowKit
set_option maxRecDepth 100000

theorem hand_iff (zs : List Int) : handB zs = true ↔ zs.length ≤ 13 ∧ zs.Pairwise (· < ·) ∧ ∀ z ∈ zs, 0 ≤ z ∧ z ≤ 51 := by
  constructor
  · intro h
    refine ⟨hand_len h, ?_, ?_⟩
    · rw [List.pairwise_iff_getElem]
      intro i j hi hj hij
      have := hand_lt h i j hij hj
      rwa [getD_eq hi, getD_eq hj] at this
    · intro z hz
      obtain ⟨j, hj, e⟩ := List.getElem_of_mem hz
      have := (hand_bounds h).2 j hj
      rwa [getD_eq hj, e] at this
  · rintro ⟨h1, h2, h3⟩
    simp only [handB, risingB, Bool.and_eq_true, decide_eq_true_eq]
    refine ⟨h1, fun j hj => ⟨?_, fun h0 => ?_⟩⟩
    · rw [getD_eq hj]; exact h3 _ (List.getElem_mem hj)
    · have hj' : j - 1 < zs.length := by omega
      rw [getD_eq hj, getD_eq hj']
      exact List.pairwise_iff_getElem.1 h2 (j - 1) j hj' hj (by omega)
theorem mem_ins (c y : Int) : ∀ l : List Int, y ∈ ins c l ↔ y = c ∨ y ∈ l
  | [] => by simp [ins]
  | z :: l => by
    unfold ins
    split
    · simp
    · simp only [List.mem_cons, mem_ins c y l]
      constructor
      · rintro (h | h | h) <;> simp [h]
      · rintro (h | h | h) <;> simp [h]
theorem ins_pairwise (c : Int) : ∀ l : List Int, l.Pairwise (· < ·) → c ∉ l → (ins c l).Pairwise (· < ·)
  | [], _, _ => by simp [ins]
  | z :: l, h, hc => by
    rw [List.pairwise_cons] at h
    have hne : c ≠ z := fun e => hc (by simp [e])
    have hcl : c ∉ l := fun e => hc (by simp [e])
    unfold ins
    split
    · rename_i hlt
      rw [List.pairwise_cons, List.pairwise_cons]
      refine ⟨fun y hy => ?_, h⟩
      rcases List.mem_cons.1 hy with rfl | hy
      · exact hlt
      · exact Int.lt_trans hlt (h.1 y hy)
    · rename_i hge
      rw [List.pairwise_cons]
      refine ⟨fun y hy => ?_, ins_pairwise c l h.2 hcl⟩
      rcases (mem_ins c y l).1 hy with rfl | hy
      · omega
      · exact h.1 y hy
theorem drop_not (x : Int) (l : List Int) (h : x ∉ l) : dropF x l = l := by
  unfold dropF
  rw [List.filter_eq_self]
  intro z hz
  have : z ≠ x := fun e => h (e ▸ hz)
  simp [this]
theorem drop_ins (x : Int) : ∀ l : List Int, x ∉ l → dropF x (ins x l) = l
  | [], _ => by simp [ins, dropF]
  | z :: l, h => by
    have hne : z ≠ x := fun e => h (by simp [e])
    have hcl : x ∉ l := fun e => h (by simp [e])
    have h2 := drop_not x (z :: l) h
    unfold ins
    split
    · have : dropF x (x :: z :: l) = dropF x (z :: l) := by simp [dropF]
      rw [this, h2]
    · have : dropF x (z :: ins x l) = z :: dropF x (ins x l) := by simp [dropF, hne]
      rw [this, drop_ins x l hcl]
/-- What an accepted HandWith means. -/
theorem with_ok {zs : List Int} {x : Int} (h : withC zs x = 0) : withV zs x = ins x zs ∧ handB (ins x zs) = true ∧ withoutC (ins x zs) x = 0 ∧ withoutV (ins x zs) x = zs := by
  have hh : handB zs = true := by
    cases e : handB zs with
    | true => rfl
    | false => simp [withC, e] at h
  have hi : inB x 0 51 = true := by
    cases e : inB x 0 51 with
    | true => rfl
    | false => simp [withC, hh, e] at h
  have hs : hasB zs x = false := by
    cases e : hasB zs x with
    | false => rfl
    | true => simp [withC, hh, hi, e] at h
  have h13 : zs.length ≠ 13 := fun e => by simp [withC, hh, hi, hs, e] at h
  obtain ⟨h1, h2, h3⟩ := (hand_iff zs).1 hh
  have hm : x ∉ zs := by simpa [hasB] using hs
  have hx : 0 ≤ x ∧ x ≤ 51 := by simpa [inB] using hi
  have hI : handB (ins x zs) = true := (hand_iff _).2 ⟨by rw [ins_length]; omega, ins_pairwise x zs h2 hm, fun z hz => by
    rcases (mem_ins x z zs).1 hz with rfl | hz
    · exact hx
    · exact h3 z hz⟩
  have hhas : hasB (ins x zs) x = true := by simp [hasB, mem_ins]
  have hc : withoutC (ins x zs) x = 0 := by simp [withoutC, hI, hhas]
  exact ⟨by simp [withV, h], hI, hc, by simp [withoutV, hc, drop_ins x zs hm]⟩
theorem suitF_nil {s : Int} {l : List Int} (h : ∀ y ∈ l, ¬ y / 13 = s) : suitF s l = [] := by
  unfold suitF
  rw [List.filter_eq_nil_iff]
  intro y hy
  simp [suitP, h y hy]
theorem suitF_hit {s z : Int} {l : List Int} (h : z / 13 = s) : suitF s (z :: l) = z :: suitF s l := by simp [suitF, suitP, h]
theorem suitF_miss {s z : Int} {l : List Int} (h : ¬ z / 13 = s) : suitF s (z :: l) = suitF s l := by simp [suitF, suitP, h]
theorem suits_all : ∀ l : List Int, l.Pairwise (· < ·) → (∀ z ∈ l, 0 ≤ z ∧ z ≤ 51) → suitF 0 l ++ (suitF 1 l ++ (suitF 2 l ++ suitF 3 l)) = l
  | [], _, _ => rfl
  | z :: l, h, hb => by
    rw [List.pairwise_cons] at h
    have ih := suits_all l h.2 (fun y hy => hb y (by simp [hy]))
    have hz := hb z (by simp)
    have hq : z / 13 = 0 ∨ z / 13 = 1 ∨ z / 13 = 2 ∨ z / 13 = 3 := by omega
    have hlow : ∀ s : Int, s < z / 13 → suitF s l = [] := fun s hs => suitF_nil fun y hy e => by
      have := h.1 y hy
      omega
    rcases hq with q | q | q | q
    · rw [suitF_hit q, suitF_miss (by omega), suitF_miss (by omega), suitF_miss (by omega)]
      simp only [List.cons_append, ih]
    · rw [suitF_miss (by omega), suitF_hit q, suitF_miss (by omega), suitF_miss (by omega)]
      have e0 := hlow 0 (by omega)
      rw [e0] at ih ⊢
      simp only [List.nil_append, List.cons_append] at ih ⊢
      rw [ih]
    · rw [suitF_miss (by omega), suitF_miss (by omega), suitF_hit q, suitF_miss (by omega)]
      have e0 := hlow 0 (by omega)
      have e1 := hlow 1 (by omega)
      rw [e0, e1] at ih ⊢
      simp only [List.nil_append, List.cons_append] at ih ⊢
      rw [ih]
    · rw [suitF_miss (by omega), suitF_miss (by omega), suitF_miss (by omega), suitF_hit q]
      have e0 := hlow 0 (by omega)
      have e1 := hlow 1 (by omega)
      have e2 := hlow 2 (by omega)
      rw [e0, e1, e2] at ih ⊢
      simp only [List.nil_append] at ih ⊢
      rw [ih]
end

end Go.Proofs.Yteglffbeldlibaa.Lib1
