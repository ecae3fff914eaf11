/- Chapter 2: the program's text of a suit and of a hand. -/
import Derived.Test.YteojdlacdnfgiaaDoorMasks
import Derived.Test.YteojdlacdnfgiaaDoorShelf
namespace Go.Proofs.YteojdlacdnfgiaaDoor.Lib1
open Go.RowKit
set_option maxRecDepth 100000

/-! ### A slice of bytes of the call's own -/
theorem bytes_info : (Tryd.prog.info? 5).map (fun i => (i.zero, i.size, i.bytes)) = some (some (.int .u8 0), 1, 1) := by kernel_rfl
def OwnB (w : World) (base : Nat) (v : Value) (xs : List Int) : Prop := w.ownsRow base 5 1 v xs.length (xs.map (Value.int .u8))
theorem OwnB.nil_ (w : World) (base : Nat) : OwnB w base (.slice none 0 0) [] := ⟨by simp, .inl ⟨rfl, rfl⟩⟩
theorem OwnB.block {w : World} {base : Nat} {v : Value} {xs : List Int} (h : OwnB w base v xs) : ∀ k, v.ownBlock = some k → base ≤ k := by
  rcases h.2 with ⟨rfl, _⟩ | ⟨g, cap, cur, rfl, hg, _⟩
  · intro k hk; simp [Value.ownBlock] at hk
  · intro k hk; simp [Value.ownBlock] at hk; omega
theorem wpList_pushB {w : World} {ops : Array Oper} {rest : List Oper} {o : Oper} {a : Act} {Q : Exit → Act → World → Prop} (hgd : o.guard = none) (s x : Operand)
    (ho : o.op = .call { callee := .builtin .append, args := #[s, x], argTypes := #[22, 22] })
    (base : Nat) (v : Value) (zs : List Int) (hs : a.eval s = v) (hown : OwnB w base v zs) (z : Int)
    (hx : a.eval x = .slice (some ⟨w.heap.size, 0, none⟩) 1 1) (hn : zs.length ≤ 1048576) (hbase : base ≤ w.heap.size)
    (h : ∀ v' w', OwnB w' base v' (zs ++ [z]) → Below base w w' → wpList Tryd.prog ops Q rest (a.put o.dst v') w') : wpList Tryd.prog ops Q (o :: rest) a (w.alloc (.cells #[.int .u8 z] 5)) := by
  obtain ⟨i0, hi0, hz0, hz1, hz2⟩ := info_parts bytes_info
  refine wpList_append_own _ hgd s x 22 ho base 5 i0 (.int .u8 0) 1 1 Tryd.underlying22 hi0 hz0 hz1 hz2 rfl (by decide) v zs.length (zs.map (Value.int .u8)) hs (World.ownsRow.alloc hown _)
    ⟨w.heap.size, 0, none⟩ 1 1 [.int .u8 z] hx rfl ?_ ?_ ?_ ?_ ?_ ?_
  · intro j u hj
    match j, hj with
    | 0, hj => simp at hj; subst hj; simp [Addr.add]
  · intro u hu; simp at hu; subst hu; rfl
  · unfold maxLen; omega
  · omega
  · simp; omega
  · intro v' w' h1 h2 _
    refine h v' w' ?_ ?_
    · unfold OwnB; simpa using h1
    · have hb : Below base w (w.alloc (.cells #[.int .u8 z] 5)) := (Below.refl _ _).alloc hbase _
      exact hb.grown h2 (by simp; omega) hown.block
/-- .. as a string. -/
theorem OwnB.conv {w : World} {base : Nat} {v : Value} {xs : List Int} (h : OwnB w base v xs) : (convert 22 9 v).run Tryd.prog w = .ok (.string (strOfNums xs)) w := by
  rcases h.2 with ⟨rfl, h0⟩ | ⟨g, cap, cur, rfl, _, hh, _, _, _, ht⟩
  · have : xs = [] := List.eq_nil_of_length_eq_zero h0
    subst this
    exact run_convert_bytes_nil w 22 5 Tryd.underlying22 Tryd.underlying5 0 0 9 Tryd.underlying9
  · refine run_convert_bytes_arg w 22 5 Tryd.underlying22 Tryd.underlying5 g 0 xs.length cap xs rfl ?_ 9 Tryd.underlying9
    intro i hi
    rw [Nat.zero_add, cell_of_row w g i cur _ _ hh]
    have e : (cur.toList.take (xs.length * 1))[i]? = (xs.map (Value.int .u8))[i]? := by rw [ht]
    rw [Nat.mul_one, List.getElem?_take_of_lt hi, List.getElem?_map, List.getElem?_eq_getElem hi] at e
    simpa [List.getD, List.getElem?_eq_getElem hi] using e

set_option maxHeartbeats 1000000 in
/-- The letters of a suit, from the ace down. -/
theorem textOf (m : Nat) (w : World) (hm : m < 8192) :
    Calls Tryd.prog 33 #[.int .u16 m] w fun e w' => e = .returned (.string (strOfNums (letN m 13))) ∧ Chg w w' 0 0 := by
  go_enter Tryd.func33, Tryd.ntmps33
  go_wp2
  go_loopw [3, 4] (fun v i wr => ∃ k : Nat, k ≤ 13 ∧ i = .int .i64 (12 - (k : Int)) ∧ OwnB wr w.heap.size v (letN m k) ∧ Below w.heap.size w wr) (fun _ i _ => (intOf i + 1).toNat)
  case atStart => exact ⟨0, by omega, rfl, OwnB.nil_ _ _, Below.refl _ _⟩
  case round =>
    obtain ⟨k, hk, rfl, ho, hb⟩ := hrel
    by_cases hlt : k < 13
    · have q0 : 0 ≤ 12 - (k : Int) := by omega
      have q1 : 12 - (k : Int) < 13 := by omega
      have qn : (12 - (k : Int)).toNat = 12 - k := by omega
      have hlen : (letN m k).length ≤ 1048576 := by have := letN_len m k; omega
      have hsz := hb.size
      have hs : Hid (letN m (k + 1) = letN m k ++ if bt m (12 - k) = 1 then [rafV (12 - k)] else []) := rfl
      by_cases ht : bt m (12 - k) = 1
      · have hr : 12 - k < (ByteArray.mk #[50, 51, 52, 53, 54, 55, 56, 57, 84, 74, 81, 75, 65]).size := by show 12 - k < 13; omega
        have hraf := raf_eq (12 - k) hr
        go_wp2_with (first | (go_at_call 63; refine (has_of m _ (12 - k) _ (by omega) hm (by omega)).mono ?_; rintro e w' ⟨rfl, rfl⟩) | (at_builtin; refine wpList_pushB rfl (.tmp 12) (.tmp 15) rfl w.heap.size _ _ rfl ho _ rfl hlen hsz ?_; intro v2 w3 o2 b2))
        refine ⟨⟨k + 1, by omega, by congr 1; omega, by rw [hs.out, if_pos ht]; exact o2, hb.trans b2⟩, ?_⟩
        simp [intOf]; omega
      · go_wp2_with (go_at_call 63; refine (has_of m _ (12 - k) _ (by omega) hm (by omega)).mono ?_; rintro e w' ⟨rfl, rfl⟩)
        go_roundw
        case rel => exact ⟨k + 1, by omega, by go_num, by rw [hs.out, if_neg ht, List.append_nil]; exact ho, hb⟩
        case measure => simp [intOf]; omega
    · obtain rfl : k = 13 := by omega
      have hcv := ho.conv
      go_wp2
      go_ret
      exact ⟨rfl, Chg.of_below hb _ _⟩

/-- The program's four texts, behind k rounds. -/
def rowT (g : Nat → ByteArray) (k : Nat) : Array Value := #[.string (if 4 ≤ k then g 3 else ⟨#[]⟩), .string (if 3 ≤ k then g 2 else ⟨#[]⟩), .string (if 2 ≤ k then g 1 else ⟨#[]⟩), .string (if 1 ≤ k then g 0 else ⟨#[]⟩)]
theorem rowT_set (g : Nat → ByteArray) (k : Nat) (hk : k < 4) : (rowT g k).setIfInBounds (3 - k) (.string (g k)) = rowT g (k + 1) := by
  have hq : k = 0 ∨ k = 1 ∨ k = 2 ∨ k = 3 := by omega
  rcases hq with rfl | rfl | rfl | rfl <;> rfl
theorem rowT_four (g : Nat → ByteArray) : rowT g 4 = #[.string (g 3), .string (g 2), .string (g 1), .string (g 0)] := rfl
theorem rowT_at (g : Nat → ByteArray) (k : Nat) (hk : k < 4) : (rowT g k)[3 - k]? = some (.string ⟨#[]⟩) := by
  have hq : k = 0 ∨ k = 1 ∨ k = 2 ∨ k = 3 := by omega
  rcases hq with rfl | rfl | rfl | rfl <;> rfl
/-- The text of one suit. -/
def segS (zs : List Int) (k : Nat) : ByteArray := strOfNums (letN (maskN zs (k : Int)) 13)
theorem segS_data {zs : List Int} (h : handB zs = true) (k : Nat) : (segS zs k).data.toList = segT (k : Int) zs := by
  unfold segS
  rw [letN_seg h, strOfNums_data, List.map_map]
  conv => rhs; rw [← List.map_id (segT (k : Int) zs)]
  apply List.map_congr_left
  intro b _
  simp
theorem join_segs {zs : List Int} (h : handB zs = true) : Lib.join ([segS zs 3, segS zs 2, segS zs 1, segS zs 0].map (·.data.toList)) [46] = textH zs := by
  simp only [List.map_cons, List.map_nil, segS_data h, Lib.join_cons, Lib.joinTail, textH]
  simp
theorem four_cells {wr : World} {g : Nat} {a b c d : ByteArray} {t : TypeId} (h : wr.heap[g]? = some (.cells #[.string a, .string b, .string c, .string d] t (0, 0))) : ∀ (j : Nat) x, [a, b, c, d][j]? = some x → wr.cell? ⟨g, 0 + j, none⟩ = some (.string x) := by
  intro j x hx
  rw [cell_of_row wr _ _ _ _ _ h, Nat.zero_add]
  match j, hx with
  | 0, hx => simp at hx; subst hx; rfl
  | 1, hx => simp at hx; subst hx; rfl
  | 2, hx => simp at hx; subst hx; rfl
  | 3, hx => simp at hx; subst hx; rfl
  | j + 4, hx => simp at hx
set_option maxHeartbeats 1000000 in
theorem handTextI (A : Option Addr) (n c : Nat) (zs : List Int) (lo hi : Nat) (w : World) (h : Rd w lo hi A n zs) : Calls Tryd.prog 9 #[.slice A n c] w (RetT w (handText zs)) := by
  cases hz : handB zs
  · rw [show handText zs = [] by simp [handText, hz]]
    go_enter Tryd.func9, Tryd.ntmps9
    go_wp2_with (go_at_call 31; refine (impl_IsHand A n c zs lo hi _ h).mono ?_; rintro e w' ⟨rfl, rfl⟩)
    go_ret
    exact ⟨rfl, Chg.refl _ _ _⟩
  · rw [show handText zs = textH zs by simp [handText, hz]]
    have ga := Lib.hid (heap_alloc_new w (.cells #[.string ⟨#[]⟩, .string ⟨#[]⟩, .string ⟨#[]⟩, .string ⟨#[]⟩] 48))
    have ca := Lib.hid (Chg.of_alloc w (.cells #[.string ⟨#[]⟩, .string ⟨#[]⟩, .string ⟨#[]⟩, .string ⟨#[]⟩] 48) 0 0)
    have hsa : Hid ((w.alloc (.cells #[.string ⟨#[]⟩, .string ⟨#[]⟩, .string ⟨#[]⟩, .string ⟨#[]⟩] 48)).heap.size = w.heap.size + 1) := by show _ = _; simp
    go_enter Tryd.func9, Tryd.ntmps9
    go_wp2_with (first | (go_at_call 31; refine (impl_IsHand A n c zs lo hi _ h).mono ?_; rintro e w' ⟨rfl, rfl⟩) | (go_at_call 32; refine (suitsOf A n c zs lo hi _ (h.still ca.out) hz).mono ?_; rintro e w1 ⟨rfl, c1⟩))
    go_loopw [11] (fun i wr => ∃ k : Nat, k ≤ 4 ∧ i = .int .i64 k ∧ Hid (wr.heap[w.heap.size]? = some (.cells (rowT (segS zs) k) 48 (0, 0))) ∧ Hid (Chg w wr 0 0)) (fun i _ => 4 - (intOf i).toNat)
    case atStart => exact ⟨0, by omega, rfl, (c1.block _ (by rw [hsa.out]; omega) (.inr (Nat.zero_le _))).trans ga.out, ca.out.trans c1⟩
    case round =>
      obtain ⟨k, hk, rfl, hg, hc⟩ := hrel
      by_cases hlt : k < 4
      · have hkl : (k : Int) < 4 := by omega
        have hat := row_index zs k hlt
        have hm := maskN_lt zs (k : Int)
        have q0 : 0 ≤ 3 - (k : Int) := by omega
        have q1 : 3 - (k : Int) < 4 := by omega
        have qn : (3 - (k : Int)).toNat = 3 - k := by omega
        have hse : Hid (segS zs k = strOfNums (letN (maskN zs (k : Int)) 13)) := rfl
        generalize maskN zs (k : Int) = m at hat hm hse
        generalize hR : rowOf zs = R at hat
        clear hR
        go_wp2_with (go_at_call 33; refine (textOf m _ hm).mono ?_; rintro e w2 ⟨rfl, c2⟩; have g2 := Lib.hid ((c2.block _ (lt_of_block hg.out) (.inr (Nat.zero_le _))).trans hg.out); have hcell : w2.cell? ⟨w.heap.size, 3 - k, none⟩ = some (.string ⟨#[]⟩) := by { rw [cell_of_row w2 _ _ _ _ _ g2.out]; exact rowT_at _ _ hlt }; have hfr : w2.frozen? ⟨w.heap.size, 3 - k, none⟩ = false := by simp [World.frozen?, g2.out])
        refine ⟨⟨k + 1, by omega, by go_num, ?_, (hc.out.trans c2).cell (Nat.le_refl _)⟩, by simp [intOf]; omega⟩
        have hr := rowT_set (segS zs) k hlt
        rw [hse.out] at hr
        show (w2.setCell ⟨w.heap.size, 3 - k, none⟩ _).heap[w.heap.size]? = _
        rw [setCell_eq_setRow w2 _ _ _ _ _ _ g2.out, setRow_heap _ _ _ _ _ _ g2.out, hr]
      · obtain rfl : k = 4 := by omega
        have hr := Lib.hid (rowT_four (segS zs))
        have hjl : (Lib.join ([segS zs 3, segS zs 2, segS zs 1, segS zs 0].map (·.data.toList)) [46]).length ≤ 140737488355328 := by rw [join_segs hz, textH_length hz]; have := hand_len hz; omega
        have hcs := four_cells (by rw [← hr.out]; exact hg.out)
        have HJ := Lib.hid (Tryd.strings_Join w.heap.size 0 4 [segS zs 3, segS zs 2, segS zs 1, segS zs 0] ⟨#[46]⟩ wr hcs (lt_of_block hg.out) (by simp) (by simp) hjl)
        have hj := Lib.hid (join_segs hz)
        clear hjl hcs
        go_wp2_with fail
        refine HJ.out.mono ?_
        rintro e w2 ⟨rfl, b2⟩
        go_wp2_with fail
        go_ret
        refine ⟨?_, hc.out.trans (Chg.of_below b2 _ _)⟩
        rw [← hj.out]
        rfl
theorem impl_HandText : ImplT 9 handText := fun A n c zs lo hi w h _ _ _ => handTextI A n c zs lo hi w h
end Go.Proofs.YteojdlacdnfgiaaDoor.Lib1
