/- Chapter 3: mapEach from hands to texts; the program's DealText. -/
import Derived.Test.YteojdlacdnfgiaaDoorMapE
import Derived.Test.YteojdlacdnfgiaaDoorImplA
import Derived.Test.YteojdlacdnfgiaaDoorTextI
namespace Go.Proofs.YteojdlacdnfgiaaDoor.Lib1
open Go.RowKit
set_option maxRecDepth 100000

theorem strs_info : (Tryd.prog.info? 9).map (fun i => (i.zero, i.size, i.bytes)) = some (some (.string ⟨#[]⟩), 1, 16) := by kernel_rfl
def strV (l : List UInt8) : Value := .string ⟨l.toArray⟩
/-- A slice of strings of the call's own. -/
def OwnT (w : World) (base : Nat) (v : Value) (ts : List (List UInt8)) : Prop := w.ownsRow base 9 1 v ts.length (ts.map strV)
theorem OwnT.block {w : World} {base : Nat} {v : Value} {ts : List (List UInt8)} (h : OwnT w base v ts) : ∀ k, v.ownBlock = some k → base ≤ k := by
  rcases h.2 with ⟨rfl, _⟩ | ⟨g, cap, cur, rfl, hg, _⟩
  · intro k hk; simp [Value.ownBlock] at hk
  · intro k hk; simp [Value.ownBlock] at hk; omega
theorem OwnT.kept {w w' : World} {base : Nat} {v : Value} {ts : List (List UInt8)} (h : OwnT w base v ts) (c : Chg w w' 0 0) : OwnT w' base v ts :=
  row_kept h (fun k _ hk => c.block k hk (.inr (Nat.zero_le _)))
theorem wpList_pushT {w : World} {ops : Array Oper} {rest : List Oper} {o : Oper} {a : Act} {Q : Exit → Act → World → Prop} (hgd : o.guard = none) (s x : Operand)
    (ho : o.op = .call { callee := .builtin .append, args := #[s, x], argTypes := #[55, 55] })
    (base : Nat) (v : Value) (ts : List (List UInt8)) (hs : a.eval s = v) (hown : OwnT w base v ts) (t : List UInt8)
    (hx : a.eval x = .slice (some ⟨w.heap.size, 0, none⟩) 1 1) (hn : ts.length ≤ 1048576) (hbase : base ≤ w.heap.size)
    (h : ∀ v' w', OwnT w' base v' (ts ++ [t]) → Below base w w' → wpList Tryd.prog ops Q rest (a.put o.dst v') w') : wpList Tryd.prog ops Q (o :: rest) a (w.alloc (.cells #[.string ⟨t.toArray⟩] 9)) := by
  obtain ⟨i0, hi0, hz0, hz1, hz2⟩ := info_parts strs_info
  refine wpList_append_own _ hgd s x 55 ho base 9 i0 (.string ⟨#[]⟩) 1 16 Tryd.underlying55 hi0 hz0 hz1 hz2 rfl (by decide) v ts.length (ts.map strV) hs (World.ownsRow.alloc hown _)
    ⟨w.heap.size, 0, none⟩ 1 1 [.string ⟨t.toArray⟩] hx rfl ?_ ?_ ?_ ?_ ?_ ?_
  · intro j u hj
    match j, hj with
    | 0, hj => simp at hj; subst hj; simp [Addr.add]
  · intro u hu; simp at hu; subst hu; rfl
  · unfold maxLen; omega
  · omega
  · simp; omega
  · intro v' w' h1 h2 _
    refine h v' w' ?_ ?_
    · unfold OwnT; rw [List.length_append, List.map_append]; exact h1
    · have hb : Below base w (w.alloc (.cells #[.string ⟨t.toArray⟩] 9)) := (Below.refl _ _).alloc hbase _
      exact hb.grown h2 (by simp; omega) hown.block
theorem make_roomT (n : Nat) (hn : n ≤ 1048576) (w : World) : (Instr.makeSlice 55 (.int .i64 0) (.int .i64 (n : Int))).run Tryd.prog w = .ok (.slice (some ⟨w.heap.size, 0, none⟩) 0 n) (w.alloc (.cells (madeCells #[.string ⟨#[]⟩] n) 9)) := by
  obtain ⟨i0, hi0, hz0, hz1, hz2⟩ := info_parts strs_info
  have hr := run_make (P := Tryd.prog) w 55 9 i0 (.string ⟨#[]⟩) Tryd.underlying55 hi0 hz0 .i64 .i64 0 (n : Int) (Int.le_refl _) (by omega) (by rw [hz2]; omega) (by omega)
  simpa [hz1, Value.cells] using hr
theorem OwnT.room (w : World) {base : Nat} (hb : base ≤ w.heap.size) (n : Nat) (hn : n ≤ 1048576) : OwnT (w.alloc (.cells (madeCells #[.string ⟨#[]⟩] n) 9)) base (.slice (some ⟨w.heap.size, 0, none⟩) 0 n) [] :=
  World.ownsRow_made w _ n hb (by unfold maxLen; omega) (by rw [size_madeCells]; simp)
set_option maxHeartbeats 1000000 in
/-- mapEach of HandText over hands. -/
theorem mapRT (A : Option Addr) (n c : Nat) (zss : List (List Int)) (lo hi : Nat) (w : World) (h : RdR w lo hi A n zss) (hhi : hi ≤ w.heap.size) (hn : n ≤ 1048576) :
    Calls Tryd.prog 44 #[.slice A n c, .func (.func 9) #[] #[]] w fun e w' => ∃ v, e = .returned v ∧ OwnT w' w.heap.size v (zss.map handText) ∧ Below w.heap.size w w' := by
  have hz := h.1
  have hmk := make_roomT n hn
  have ho0 := Lib.hid (OwnT.room w (Nat.le_refl _) n hn)
  have hb0 := Lib.hid ((Below.refl w.heap.size w).alloc (Nat.le_refl _) (.cells (madeCells #[.string ⟨#[]⟩] n) 9))
  go_enter Tryd.func44, Tryd.ntmps44
  go_wp2
  clear hmk
  go_loopw [5, 13] (fun v i wr => ∃ k : Nat, k ≤ n ∧ i = .int .i64 k ∧ OwnT wr w.heap.size v ((zss.take k).map handText) ∧ Below w.heap.size w wr) (fun _ i _ => n - (intOf i).toNat)
  case atStart => exact ⟨0, Nat.zero_le _, rfl, ho0.out, hb0.out⟩
  case round =>
    obtain ⟨k, hk, rfl, ho, hb⟩ := hrel
    by_cases hlt : k < n
    · have hkl : (k : Int) < (n : Int) := by omega
      obtain ⟨b, off, B, C, rfl, _, _, hck, hrd, hlC, hBn⟩ := (h.below hb hhi).at_ hlt
      have hfk := Lib.hid (handTextI B _ C _ _ _ wr hrd)
      have hs : Hid ((zss.take (k + 1)).map handText = (zss.take k).map handText ++ [handText (zss.getD k [])]) := by show _ = _; rw [take_row (by omega), List.map_append]; rfl
      have hl : ((zss.take k).map handText).length ≤ 1048576 := by simp; omega
      have hsz := hb.size
      clear hrd hBn
      generalize handText (zss.getD k []) = gz at hfk hs
      generalize zss.getD k [] = z at hck hfk hlC
      generalize (zss.take k).map handText = ys at ho hs hl
      go_wp2_with (first | (go_at_call 9; refine hfk.out.mono ?_; rintro e w1 ⟨rfl, c1⟩; have o1 := ho.kept c1; have hs1 := Nat.le_trans hsz c1.size) | (at_builtin; refine wpList_pushT rfl _ _ rfl w.heap.size _ _ rfl o1 gz rfl hl hs1 ?_; intro v3 w3 o3 b3))
      rw [← hs.out] at o3
      have hb3 := (Chg.above hb c1 hsz (.inr rfl)).trans b3
      clear ho hb c1 o1 b3 hs
      go_roundw
      case rel => exact ⟨k + 1, by omega, by go_num, o3, hb3⟩
      case measure => simp [intOf]; omega
    · obtain rfl : k = n := by omega
      rw [List.take_of_length_le (by omega)] at ho
      go_wp2
      go_ret
      exact ⟨_, rfl, ho, hb⟩

theorem OwnT.cells {w : World} {base : Nat} {v : Value} {ts : List (List UInt8)} (h : OwnT w base v ts) (hn : 0 < ts.length) : ∃ g c, v = .slice (some ⟨g, 0, none⟩) ts.length c ∧ g < w.heap.size ∧ ts.length ≤ c ∧
    ∀ (j : Nat) x, (ts.map fun t => (⟨t.toArray⟩ : ByteArray))[j]? = some x → w.cell? ⟨g, 0 + j, none⟩ = some (.string x) := by
  rcases h.2 with ⟨_, h0⟩ | ⟨g, cap, cur, rfl, hg, hh, h1, h2, h3, ht⟩
  · omega
  · refine ⟨g, cap, rfl, lt_of_block hh, h1, fun j x hx => ?_⟩
    have hj : j < ts.length := by
      rcases Nat.lt_or_ge j ts.length with e | e
      · exact e
      · rw [List.getElem?_eq_none (by simpa using e)] at hx; cases hx
    rw [Nat.zero_add, cell_of_row w g j cur _ _ hh]
    have e : (cur.toList.take (ts.length * 1))[j]? = (ts.map strV)[j]? := by rw [ht]
    rw [Nat.mul_one, List.getElem?_take_of_lt hj] at e
    rw [← Array.getElem?_toList, e]
    rw [List.getElem?_map, List.getElem?_eq_getElem hj] at hx ⊢
    simp at hx
    rw [← hx]; rfl
theorem join_deal {zss : List (List Int)} (h : dealB zss = true) : [78, 58] ++ Lib.join ((zss.map handText).map fun t => t) [32] = dtTo zss 4 := by
  obtain ⟨h4, hr, _⟩ := (deal_iff zss).1 h
  match zss, h4 with
  | [a, b, c, d], _ =>
    have e0 := (hr 0 (by omega)).1
    have e1 := (hr 1 (by omega)).1
    have e2 := (hr 2 (by omega)).1
    have e3 := (hr 3 (by omega)).1
    simp at e0 e1 e2 e3
    simp [dtTo, Lib.join_cons, Lib.joinTail, handText, e0, e1, e2, e3]

end Go.Proofs.YteojdlacdnfgiaaDoor.Lib1
