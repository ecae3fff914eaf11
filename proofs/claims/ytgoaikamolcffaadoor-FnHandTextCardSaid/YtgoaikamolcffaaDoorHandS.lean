/- Contracts of the model's HandWith and HandWithout and of what they call: membership, insertion, removal. -/
import Derived.Test.YtgoaikamolcffaaDoorSuit
namespace Go.Proofs.YtgoaikamolcffaaDoor.Lib1
open Go.RowKit

/-! ### Lists -/
def hasB (zs : List Int) (x : Int) : Bool := decide (x ∈ zs)
theorem take_snoc (zs : List Int) (k : Nat) (h : k < zs.length) : zs.take (k + 1) = zs.take k ++ [zs.getD k 0] := by
  rw [List.take_succ_eq_append_getElem h]; simp [List.getD, List.getElem?_eq_getElem h]
theorem hasB_yes {zs : List Int} {x : Int} {k : Nat} (h : k < zs.length) (e : zs.getD k 0 = x) : hasB zs x = true := by
  simp only [hasB, decide_eq_true_eq]
  rw [← e]; simp only [List.getD, List.getElem?_eq_getElem h, Option.getD_some]; exact List.getElem_mem h
theorem hasB_no {zs : List Int} {x : Int} (h : ∀ j, j < zs.length → zs.getD j 0 ≠ x) : hasB zs x = false := by
  simp only [hasB, decide_eq_false_iff_not]
  intro hm
  obtain ⟨j, hj, e⟩ := List.getElem_of_mem hm
  exact h j hj (by simp [List.getD, List.getElem?_eq_getElem hj, e])
/-- A number is put ahead of the first greater one. -/
def ins (c : Int) : List Int → List Int
  | [] => [c]
  | z :: l => if c < z then c :: z :: l else z :: ins c l
def gtB (c : Int) (l : List Int) : Bool := l.any fun z => decide (c < z)
def insTo (c : Int) (l : List Int) : List Int := if gtB c l then ins c l else l
theorem ins_length (c : Int) : ∀ l : List Int, (ins c l).length = l.length + 1
  | [] => rfl
  | z :: l => by unfold ins; split <;> simp [ins_length c l]
theorem ins_not (c : Int) : ∀ l : List Int, gtB c l = false → ins c l = l ++ [c]
  | [], _ => rfl
  | z :: l, h => by
    simp only [gtB, List.any_cons, Bool.or_eq_false_iff, decide_eq_false_iff_not] at h
    unfold ins; rw [if_neg h.1, ins_not c l h.2]; rfl
theorem ins_snoc (c z : Int) : ∀ l : List Int, gtB c l = true → ins c (l ++ [z]) = ins c l ++ [z]
  | [], h => by simp [gtB] at h
  | y :: l, h => by
    by_cases e : c < y
    · simp [ins, e]
    · have h' : gtB c l = true := by simpa [gtB, e] using h
      simp [ins, e, ins_snoc c z l h']
theorem ins_snoc_now (c z : Int) (hz : c < z) : ∀ l : List Int, gtB c l = false → ins c (l ++ [z]) = l ++ [c] ++ [z]
  | [], _ => by simp [ins, hz]
  | y :: l, h => by
    simp only [gtB, List.any_cons, Bool.or_eq_false_iff, decide_eq_false_iff_not] at h
    simp [ins, h.1, ins_snoc_now c z hz l h.2]
theorem gtB_snoc (c z : Int) (l : List Int) : gtB c (l ++ [z]) = (gtB c l || decide (c < z)) := by simp [gtB]
theorem insTo_done {c z : Int} {l : List Int} (h : gtB c l = true) : insTo c (l ++ [z]) = insTo c l ++ [z] := by
  simp [insTo, gtB_snoc, h, ins_snoc c z l h]
theorem insTo_now {c z : Int} {l : List Int} (h : gtB c l = false) (hz : c < z) : insTo c (l ++ [z]) = insTo c l ++ [c] ++ [z] := by
  simp only [insTo, gtB_snoc, h, hz, decide_true, Bool.false_or, if_true, ins_snoc_now c z hz l h]; simp
theorem insTo_not {c z : Int} {l : List Int} (h : gtB c l = false) (hz : ¬ c < z) : insTo c (l ++ [z]) = insTo c l ++ [z] := by
  simp [insTo, gtB_snoc, h, hz]
theorem insTo_le (c : Int) (l : List Int) : (insTo c l).length ≤ l.length + 1 := by
  unfold insTo; split
  · rw [ins_length]; omega
  · omega
def dropF (x : Int) (zs : List Int) : List Int := zs.filter fun z => !decide (z = x)
theorem dropF_le (x : Int) (zs : List Int) : (dropF x zs).length ≤ zs.length := List.length_filter_le _ _
theorem dropF_no {x : Int} {zs : List Int} {k : Nat} (h : k < zs.length) (e : ¬ zs.getD k 0 = x) : dropF x (zs.take (k + 1)) = dropF x (zs.take k) ++ [zs.getD k 0] := by
  unfold dropF; rw [take_filter_succ _ _ _ h]; simp only [e, decide_false, Bool.not_false, if_true]
theorem dropF_yes {x : Int} {zs : List Int} {k : Nat} (h : k < zs.length) (e : zs.getD k 0 = x) : dropF x (zs.take (k + 1)) = dropF x (zs.take k) := by
  unfold dropF; rw [take_filter_succ _ _ _ h]; simp only [e, decide_true, Bool.not_true, Bool.false_eq_true, if_false, List.append_nil]

/-! ### The model's functions -/
set_option maxHeartbeats 400000 in
/-- spec.l01Has -/
theorem l01Has (A : Option Addr) (n c : Nat) (x : Int) (zs : List Int) (lo hi : Nat) (w : World) (h : Rd w lo hi A n zs) (hn : n ≤ 1048576) :
    Calls Tryd.prog 32 #[.slice A n c, .int .i64 x] w fun e w' => e = .returned (.bool (hasB zs x)) ∧ w = w' := by
  have HL := Lib.hid h.1
  go_enter Tryd.func32, Tryd.ntmps32
  go_wp2
  go_loop [5] (fun i => ∃ k : Nat, k ≤ n ∧ i = .int .i64 k ∧ Hid (∀ j, j < k → zs.getD j 0 ≠ x)) (fun i => n - (intOf i).toNat)
  case atStart => exact ⟨0, Nat.zero_le _, rfl, fun j hj => by omega⟩
  case round =>
    obtain ⟨k, hk, rfl, hr⟩ := hrel
    by_cases hlt : k < n
    · obtain ⟨b, off, rfl, _, _, hc⟩ := h.2 (by omega)
      have hck := hc k hlt
      have hkl : (k : Int) < (n : Int) := by omega
      have hkz : k < zs.length := by rw [HL.out]; exact hlt
      by_cases he : zs.getD k 0 = x
      · have hf := Lib.hid (hasB_yes hkz he)
        have ht : (zs.getD k 0 == x) = true := by simpa using he
        generalize zs.getD k 0 = z at hck ht
        clear hc he hr
        go_wp2
        go_ret
        exact ⟨ret_bool hf.out.symm, rfl⟩
      · have hr' : Hid (∀ j, j < k + 1 → zs.getD j 0 ≠ x) := by
          intro j hj
          by_cases e : j < k
          · exact hr.out j e
          · obtain rfl : j = k := by omega
            exact he
        have ht : (zs.getD k 0 == x) = false := by simpa using he
        generalize zs.getD k 0 = z at hck ht
        clear hc he hr
        go_wp2
        go_round
        case rel => exact ⟨k + 1, by omega, by go_num, hr'⟩
        case measure => simp [intOf]; omega
    · have hf : Hid (hasB zs x = false) := hasB_no (fun j hj => hr.out j (by rw [HL.out] at hj; omega))
      go_wp2
      go_ret
      exact ⟨ret_bool hf.out.symm, rfl⟩


set_option maxHeartbeats 1600000 in
/-- spec.l01Put -/
theorem l01PutV (A : Option Addr) (n c : Nat) (s : Int) (zs : List Int) (lo hi : Nat) (w : World) (h : Rd w lo hi A n zs) (hn : n ≤ 1048570) :
    Calls Tryd.prog 33 #[.slice A n c, .int .i64 s] w (RetV w (ins s zs)) := by
  have HL := Lib.hid h.1
  have ha := h.all
  clear h
  go_enter Tryd.func33, Tryd.ntmps33
  go_wp2
  go_loopw [5, 6, 7] (fun v d i wr => ∃ k : Nat, k ≤ n ∧ i = .int .i64 k ∧ d = .bool (gtB s (zs.take k)) ∧ OwnV wr w.heap.size v (insTo s (zs.take k)) ∧ Below w.heap.size w wr) (fun _ _ i _ => n - (intOf i).toNat)
  case atStart => exact ⟨0, Nat.zero_le _, rfl, rfl, OwnV.made w (Nat.le_refl _), (Below.refl _ _).alloc (Nat.le_refl _) _⟩
  case round =>
    obtain ⟨k, hk, rfl, rfl, ho, hb⟩ := hrel
    have hlen : (insTo s (zs.take k)).length ≤ 1048572 := Nat.le_trans (insTo_le _ _) (by simp; omega)
    by_cases hlt : k < n
    · have hkz : k < zs.length := by rw [HL.out]; exact hlt
      obtain ⟨b, off, rfl, _, hbl, hc⟩ := (ha.below hb (Nat.le_refl _)).2 (by omega)
      have hck := hc k hlt
      have hkl : (k : Int) < (n : Int) := by omega
      have hsize := hb.size
      have hts := Lib.hid (take_snoc zs k hkz)
      cases hd : gtB s (zs.take k) with
      | true =>
        have hs := Lib.hid (insTo_done (z := zs.getD k 0) hd)
        have hg : Hid (gtB s (zs.take k ++ [zs.getD k 0]) = true) := by show _ = true; rw [gtB_snoc, hd]; rfl
        generalize zs.getD k 0 = z at hck hs hg hts
        clear hc hd
        go_wp2_with (at_builtin; refine wpList_push rfl (.tmp 29) (.tmp 34) rfl w.heap.size _ _ rfl ho z rfl (by omega) hsize ?_; intro v' w1 ho1 hb1)
        rw [← hs.out, ← hts.out] at ho1
        rw [← hts.out] at hg
        have hb2 := hb.trans hb1
        clear ho hb hb1 hs
        go_roundw
        case rel => exact ⟨k + 1, by omega, by go_num, congrArg Value.bool hg.out.symm, ho1, hb2⟩
        case measure => simp [intOf]; omega
      | false =>
        by_cases hz : s < zs.getD k 0
        · have hs := Lib.hid (insTo_now (z := zs.getD k 0) hd hz)
          have hg : Hid (gtB s (zs.take k ++ [zs.getD k 0]) = true) := by show _ = true; rw [gtB_snoc, hd, decide_eq_true hz]; rfl
          generalize zs.getD k 0 = z at hck hs hg hts hz
          have hck1 : ∀ w1, Below w.heap.size wr w1 → w1.cell? ⟨b, off + k, none⟩ = some (.int .i64 z) := fun w1 hb1 => by
            rw [World.cell?_of_block (hb1.block b (by omega))]; exact hck
          have HC := Lib.hid hck1
          clear hc hd hck1
          go_wp2_with (first | (at_builtin; refine wpList_push rfl (.tmp 25) (.tmp 27) rfl w.heap.size _ _ rfl ho s rfl (by omega) hsize ?_; intro v1 w1 ho1 hb1; have hc1 := HC.out w1 hb1; have hz1 := (hb.trans hb1).size; have hl1 : (insTo s (zs.take k) ++ [s]).length ≤ 1048576 := by simp; omega) | (at_builtin; refine wpList_push rfl (.tmp 29) (.tmp 34) rfl w.heap.size _ _ rfl ho1 z rfl hl1 hz1 ?_; intro v2 w2 ho2 hb2))
          rw [← hs.out, ← hts.out] at ho2
          rw [← hts.out] at hg
          have hb3 := (hb.trans hb1).trans hb2
          clear ho hb hb1 hs ho1 hc1 hb2
          go_roundw
          case rel => exact ⟨k + 1, by omega, by go_num, congrArg Value.bool hg.out.symm, ho2, hb3⟩
          case measure => simp [intOf]; omega
        · have hs := Lib.hid (insTo_not (z := zs.getD k 0) hd hz)
          have hg : Hid (gtB s (zs.take k ++ [zs.getD k 0]) = false) := by show _ = false; rw [gtB_snoc, hd, decide_eq_false hz]; rfl
          generalize zs.getD k 0 = z at hck hs hg hts hz
          clear hc hd
          go_wp2_with (at_builtin; refine wpList_push rfl (.tmp 29) (.tmp 34) rfl w.heap.size _ _ rfl ho z rfl (by omega) hsize ?_; intro v' w1 ho1 hb1)
          rw [← hs.out, ← hts.out] at ho1
          rw [← hts.out] at hg
          have hb2 := hb.trans hb1
          clear ho hb hb1 hs
          go_roundw
          case rel => exact ⟨k + 1, by omega, by go_num, congrArg Value.bool hg.out.symm, ho1, hb2⟩
          case measure => simp [intOf]; omega
    · have hsize := hb.size
      rw [show zs.take k = zs from List.take_of_length_le (by rw [HL.out]; omega)] at ho hlen
      rw [show zs.take k = zs from List.take_of_length_le (by rw [HL.out]; omega)]
      cases hd : gtB s zs with
      | true =>
        have hs : Hid (insTo s zs = ins s zs) := by simp [Hid, insTo, hd]
        rw [hs.out] at ho
        clear hs hd
        go_wp2
        go_ret
        exact ⟨_, rfl, ho, hb⟩
      | false =>
        have hs : Hid (insTo s zs ++ [s] = ins s zs) := by show _ = _; rw [ins_not s zs hd]; simp [insTo, hd]
        clear hd
        go_wp2_with (at_builtin; refine wpList_push rfl (.tmp 38) (.tmp 40) rfl w.heap.size _ _ rfl ho s rfl (by omega) hsize ?_; intro v' w1 ho1 hb1)
        rw [hs.out] at ho1
        go_ret
        exact ⟨_, rfl, ho1, hb.trans hb1⟩

theorem l01Put (A : Option Addr) (n c : Nat) (s : Int) (zs : List Int) (lo hi : Nat) (w : World) (h : Rd w lo hi A n zs) (hn : n ≤ 1048570) :
    Calls Tryd.prog 33 #[.slice A n c, .int .i64 s] w (RetS w (ins s zs)) :=
  (l01PutV A n c s zs lo hi w h hn).mono fun _ _ h => RetS.of_V h

/-! ### What HandWith and HandWithout hand back -/
/-- The code of HandWith. -/
def withC (zs : List Int) (x : Int) : Int := if handB zs then (if inB x 0 51 then (if hasB zs x then 5 else if zs.length = 13 then 3 else 0) else 2) else 1
def withV (zs : List Int) (x : Int) : List Int := if withC zs x = 0 then ins x zs else []
def withoutC (zs : List Int) (x : Int) : Int := if handB zs then (if hasB zs x then 0 else 4) else 1
def withoutV (zs : List Int) (x : Int) : List Int := if withoutC zs x = 0 then dropF x zs else []
theorem hand_len {zs : List Int} (h : handB zs = true) : zs.length ≤ 13 := (hand_bounds h).1
theorem withV_le (zs : List Int) (x : Int) : (withV zs x).length ≤ 14 := by
  unfold withV
  split
  · rename_i h
    cases hh : handB zs with
    | true => rw [ins_length]; have := hand_len hh; omega
    | false => simp [withC, hh] at h
  · simp
theorem withoutV_le (zs : List Int) (x : Int) : (withoutV zs x).length ≤ 13 := by
  unfold withoutV
  split
  · rename_i h
    cases hh : handB zs with
    | true => have := hand_len hh; have := dropF_le x zs; omega
    | false => simp [withoutC, hh] at h
  · simp
theorem with_of {zs : List Int} {x k : Int} {l : List Int} (hk : withC zs x = k) (hl : withV zs x = l) : ∀ (w : World) (e : Ending) (w' : World), RetSI w l k e w' → RetSI w (withV zs x) (withC zs x) e w' := by
  intro w e w' h; rw [hk, hl]; exact h
theorem without_of {zs : List Int} {x k : Int} {l : List Int} (hk : withoutC zs x = k) (hl : withoutV zs x = l) : ∀ (w : World) (e : Ending) (w' : World), RetSI w l k e w' → RetSI w (withoutV zs x) (withoutC zs x) e w' := by
  intro w e w' h; rw [hk, hl]; exact h
theorem RetSI.empty_made (w w1 : World) (k : Int) (hb : Chg w w1 0 0) : RetSI w [] k (.returned (.tuple #[.slice (some ⟨w1.heap.size, 0, none⟩) 0 0, .int .i64 k])) (w1.alloc (.cells #[] 2)) :=
  ⟨_, 0, rfl, Nat.le_refl _, Plain.at_ _ _ _, Own.none_, hb.trans (Chg.of_alloc _ _ _ _)⟩
theorem RetSI.of_S {w w1 w' : World} {zs : List Int} {A : Option Addr} {m c : Nat} {k : Int} (hb : Chg w w1 0 0) (h : RetS w1 zs (.returned (.slice A m c)) w') : RetSI w zs k (.returned (.tuple #[.slice A m c, .int .i64 k])) w' := by
  obtain ⟨A', c', he, h1, h2, h3, h4⟩ := h
  injection he with he
  injection he with e1 e2 e3
  subst e1 e2 e3
  exact ⟨_, _, rfl, h1, h2, h3.more hb.size (Nat.le_refl _), hb.trans h4⟩
theorem RetSI.nil_ {w w1 : World} {k : Int} (hb : Chg w w1 0 0) : RetSI w [] k (.returned (.tuple #[.slice none 0 0, .int .i64 k])) w1 :=
  ⟨none, 0, rfl, Nat.le_refl _, Plain.nil_, Own.none_, hb⟩



end Go.Proofs.YtgoaikamolcffaaDoor.Lib1
