/- Chapter 7: a text cut at its blanks by the model (l07Words), and the words of an auction's text. -/
import Derived.Test.YtnkbcmkngghnoaaDoorAucX7
import Derived.Test.YtnkbcmkngghnoaaDoorSplit7
import Derived.Test.YtnkbcmkngghnoaaDoorRead6
namespace Go.Proofs.YtnkbcmkngghnoaaDoor.Lib1
open Go.RowKit
set_option maxRecDepth 100000

/-! ### A slice of strings of the call's own -/
theorem str_info : (Tryd.prog.info? 9).map (fun i => (i.zero, i.size, i.bytes)) = some (some (.string ⟨#[]⟩), 1, 16) := by kernel_rfl
def OwnT (w : World) (base : Nat) (v : Value) (ts : List ByteArray) : Prop := w.ownsRow base 9 1 v ts.length (ts.map Value.string)
theorem OwnT.made (w : World) {base : Nat} (hb : base ≤ w.heap.size) : OwnT (w.alloc (.cells #[] 9)) base (.slice (some ⟨w.heap.size, 0, none⟩) 0 0) [] :=
  ⟨by simp, .inr ⟨w.heap.size, 0, #[], rfl, hb, heap_alloc_new w _, Nat.le_refl _, Nat.zero_le _, by simp, by simp⟩⟩
theorem OwnT.block {w : World} {base : Nat} {v : Value} {ts : List ByteArray} (h : OwnT w base v ts) : ∀ k, v.ownBlock = some k → base ≤ k := by
  rcases h.2 with ⟨rfl, _⟩ | ⟨g, cap, cur, rfl, hg, _⟩
  · intro k hk; simp [Value.ownBlock] at hk
  · intro k hk; simp [Value.ownBlock] at hk; omega
theorem OwnT.chg {w w' : World} {base lo hi : Nat} {v : Value} {ts : List ByteArray} (h : OwnT w base v ts) (c : Chg w w' lo hi) (hd : hi ≤ base) : OwnT w' base v ts := by
  refine ⟨h.1, ?_⟩
  rcases h.2 with h0 | ⟨g, cap, cur, hv, hg, hh, r⟩
  · exact .inl h0
  · exact .inr ⟨g, cap, cur, hv, hg, (c.block g (lt_of_block hh) (by omega)).trans hh, r⟩
/-- What it reads as. -/
theorem OwnT.form {w : World} {base : Nat} {v : Value} {ts : List ByteArray} (h : OwnT w base v ts) : ∃ A c, v = .slice A ts.length c ∧ (0 < ts.length → ∃ b, A = some ⟨b, 0, none⟩ ∧ base ≤ b ∧ b < w.heap.size ∧ ∀ j, j < ts.length → w.cell? ⟨b, j, none⟩ = some (.string (ts.getD j ByteArray.empty))) := by
  rcases h.2 with ⟨rfl, h0⟩ | ⟨g, cap, cur, rfl, hg, hh, _, _, _, ht⟩
  · exact ⟨none, 0, by rw [h0], fun h => by omega⟩
  · refine ⟨_, cap, rfl, fun _ => ⟨g, rfl, hg, lt_of_block hh, fun j hj => ?_⟩⟩
    rw [cell_of_row w g j cur _ _ hh]
    have e : (cur.toList.take (ts.length * 1))[j]? = (ts.map Value.string)[j]? := by rw [ht]
    rw [Nat.mul_one, List.getElem?_take_of_lt hj, List.getElem?_map, List.getElem?_eq_getElem hj] at e
    simpa [List.getD, List.getElem?_eq_getElem hj] using e
theorem wpList_pushT {w : World} {ops : Array Oper} {rest : List Oper} {o : Oper} {a : Act} {Q : Exit → Act → World → Prop} (hgd : o.guard = none) (s x : Operand)
    (ho : o.op = .call { callee := .builtin .append, args := #[s, x], argTypes := #[63, 63] })
    (base : Nat) (v : Value) (ts : List ByteArray) (hs : a.eval s = v) (hown : OwnT w base v ts) (t : ByteArray)
    (hx : a.eval x = .slice (some ⟨w.heap.size, 0, none⟩) 1 1) (hn : ts.length ≤ 1048577) (hbase : base ≤ w.heap.size)
    (h : ∀ v' w', OwnT w' base v' (ts ++ [t]) → Below base w w' → wpList Tryd.prog ops Q rest (a.put o.dst v') w') : wpList Tryd.prog ops Q (o :: rest) a (w.alloc (.cells #[.string t] 9)) := by
  obtain ⟨i0, hi0, hz0, hz1, hz2⟩ := info_parts str_info
  refine wpList_append_own _ hgd s x 63 ho base 9 i0 (.string ⟨#[]⟩) 1 16 Tryd.underlying63 hi0 hz0 hz1 hz2 rfl (by decide) v ts.length (ts.map Value.string) hs (World.ownsRow.alloc hown _)
    ⟨w.heap.size, 0, none⟩ 1 1 [.string t] hx rfl ?_ ?_ ?_ ?_ ?_ ?_
  · intro j u hj
    match j, hj with
    | 0, hj => simp at hj; subst hj; simp [Addr.add]
  · intro u hu; simp at hu; subst hu; rfl
  · unfold maxLen; omega
  · omega
  · simp; omega
  · intro v' w' h1 h2 _
    refine h v' w' ?_ ?_
    · unfold OwnT; simpa using h1
    · have hb : Below base w (w.alloc (.cells #[.string t] 9)) := (Below.refl _ _).alloc hbase _
      exact hb.grown h2 (by simp; omega) hown.block

theorem ext_listW (s : ByteArray) (f i : Nat) : (s.extract f i).data.toList = pieceW s.data.toList f i := by
  unfold pieceW
  rw [ByteArray.data_extract, Array.toList_extract, List.extract_eq_take_drop]
theorem byteW (s : ByteArray) (i : Nat) (h : i < s.size) : s.data.toList.getD i 0 = s[i] := byte_getD s i h
def toL (t : ByteArray) : List UInt8 := t.data.toList
/-- The pieces of a text are handed back. -/
def RetW (w : World) (l : List UInt8) (e : Ending) (w' : World) : Prop := ∃ v ts, e = .returned v ∧ OwnT w' w.heap.size v ts ∧ ts.map toL = splitW l ∧ (∀ t ∈ ts, t.size ≤ 1048576) ∧ ts.length ≤ 1048577 ∧ Below w.heap.size w w'
set_option maxHeartbeats 4000000 in
theorem l07Words (s : ByteArray) (w : World) (hs0 : s.size ≤ 1048576) : Calls Tryd.prog 47 #[.string s, .int .u8 32] w (RetW w s.data.toList) := by
  have hsl := Lib.hid (show s.size = s.data.toList.length by rw [Array.length_toList]; rfl)
  go_enter Tryd.func47, Tryd.ntmps47
  go_wp2
  go_loopw [5, 6, 7] (fun u fv iv wr => ∃ (f i : Nat) (ts : List ByteArray), i ≤ s.size + 1 ∧ f ≤ i ∧ fv = .int .i64 f ∧ iv = .int .i64 i ∧ OwnT wr w.heap.size u ts ∧ ts.length ≤ i ∧ Below w.heap.size w wr ∧ Hid (∀ t ∈ ts, t.size ≤ 1048576) ∧ Hid (CutAt s.data.toList f i (ts.map toL) ∨ (i = s.size + 1 ∧ splitW s.data.toList = ts.map toL))) (fun _ _ iv _ => s.size + 2 - (intOf iv).toNat)
  case atStart => exact ⟨0, 0, [], by omega, Nat.le_refl _, rfl, rfl, OwnT.made w (Nat.le_refl _), by simp, (Below.refl _ _).alloc (Nat.le_refl _) _, (fun t ht => by cases ht), .inl (CutAt.start _)⟩
  case round =>
    obtain ⟨f, i, ts, hi, hfi, rfl, rfl, ho, hln, hb, hsm, hat⟩ := hrel
    by_cases hlt : i ≤ s.size
    · have hil : (i : Int) ≤ (s.size : Int) := by omega
      have hfI : (f : Int) ≤ (i : Int) := by omega
      have hR : Hid (CutAt s.data.toList f i (ts.map toL)) := by
        rcases hat.out with q | q
        · exact q
        · exact absurd q.1 (by omega)
      have hzt := hb.size
      have hpe := Lib.hid (ext_listW s f i)
      have hps := Lib.hid (show (s.extract f i).size ≤ 1048576 by rw [ByteArray.size_extract]; omega)
      have hsm' : Hid (∀ t ∈ ts ++ [s.extract f i], t.size ≤ 1048576) := fun t ht => by
        rcases List.mem_append.1 ht with q | q
        · exact hsm.out t q
        · simp at q; rw [q]; exact hps.out
      have hl1 : ts.length ≤ 1048577 := by omega
      clear hat
      by_cases hin : i < s.size
      · have hinI : (i : Int) < (s.size : Int) := by omega
        have hne : ((i : Int) == (s.size : Int)) = false := by simp; omega
        by_cases hb32 : s[i] = 32
        · have t32 : (((s[i].toNat : Nat) : Int) == 32) = true := by rw [hb32]; rfl
          have hcut := hR.out.cut (by rw [← hsl.out]; exact hin) (by rw [byteW s i hin]; exact hb32)
          have hnext : Hid (CutAt s.data.toList (i + 1) (i + 1) ((ts ++ [s.extract f i]).map toL) ∨ (i + 1 = s.size + 1 ∧ splitW s.data.toList = (ts ++ [s.extract f i]).map toL)) := .inl (by rw [List.map_append]; show CutAt _ _ _ (ts.map toL ++ [toL (s.extract f i)]); rw [show toL (s.extract f i) = pieceW s.data.toList f i from hpe.out]; exact hcut)
          clear hcut hb32 hR
          go_wp2_with (at_builtin; refine wpList_pushT rfl (.tmp 26) (.tmp 31) rfl w.heap.size _ ts rfl ho (s.extract f i) rfl hl1 hzt ?_; intro v2 w3 o2 b2)
          go_roundw
          case rel => exact ⟨i + 1, i + 1, _, by omega, by omega, by go_num, by go_num, o2, by simp; omega, hb.trans b2, hsm', hnext⟩
          case measure => simp [intOf]; omega
        · have t32 : (((s[i].toNat : Nat) : Int) == 32) = false := by
            rw [beq_eq_false_iff_ne]; intro e; apply hb32; exact UInt8.toNat_inj.1 (by show s[i].toNat = 32; omega)
          have hnx := Lib.hid (hR.out.pass (by rw [← hsl.out]; exact hin) (by rw [byteW s i hin]; exact hb32))
          clear hb32 hR
          go_wp2
          go_roundw
          case rel => exact ⟨f, i + 1, ts, by omega, by omega, rfl, by go_num, ho, by omega, hb, hsm, .inl hnx.out⟩
          case measure => simp [intOf]; omega
      · obtain rfl : i = s.size := by omega
        have hlast := hR.out.last hsl.out
        have hnext : Hid (CutAt s.data.toList (s.size + 1) (s.size + 1) ((ts ++ [s.extract f s.size]).map toL) ∨ (s.size + 1 = s.size + 1 ∧ splitW s.data.toList = (ts ++ [s.extract f s.size]).map toL)) := .inr ⟨rfl, by rw [List.map_append]; show _ = ts.map toL ++ [toL (s.extract f s.size)]; rw [show toL (s.extract f s.size) = pieceW s.data.toList f s.size from hpe.out]; exact hlast⟩
        clear hlast hR
        go_wp2_with (at_builtin; refine wpList_pushT rfl (.tmp 26) (.tmp 31) rfl w.heap.size _ ts rfl ho (s.extract f s.size) rfl hl1 hzt ?_; intro v2 w3 o2 b2)
        go_roundw
        case rel => exact ⟨s.size + 1, s.size + 1, _, by omega, by omega, by go_num, by go_num, o2, by simp; omega, hb.trans b2, hsm', hnext⟩
        case measure => simp [intOf]
    · have hf : Hid (splitW s.data.toList = ts.map toL) := by
        rcases hat.out with q | q
        · exact absurd q.il (fun h => hlt (by rw [hsl.out]; exact h))
        · exact q.2
      have hil : ¬ (i : Int) ≤ (s.size : Int) := by omega
      have ho' := Lib.hid ho
      have hb' := Lib.hid hb
      clear hat
      go_wp2
      go_ret
      exact ⟨_, ts, rfl, ho'.out, hf.out.symm, hsm.out, by omega, hb'.out⟩
end Go.Proofs.YtnkbcmkngghnoaaDoor.Lib1
