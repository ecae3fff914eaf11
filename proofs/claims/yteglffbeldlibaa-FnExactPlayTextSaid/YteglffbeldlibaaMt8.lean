/- Chapter 8: mapEach from cards to texts, joined. -/
import Derived.Test.YteglffbeldlibaaBase1
import Derived.Test.YteglffbeldlibaaBase2
import Derived.Test.YteglffbeldlibaaPlayT8
import Derived.Test.YteglffbeldlibaaShelf
import Derived.Test.YteglffbeldlibaaNests
import Derived.Laws.AppendOwnNone
namespace Go.Proofs.Yteglffbeldlibaa.Lib1
open Go.RowKit
set_option maxRecDepth 100000

theorem strs_info8 : (Try.prog.info? 9).map (fun i => (i.zero, i.size, i.bytes)) = some (some (.string ⟨#[]⟩), 1, 16) := by kernel_rfl
def strV8 (l : List UInt8) : Value := .string ⟨l.toArray⟩
/-- A slice of strings of the call's own. -/
def OwnT8 (w : World) (base : Nat) (v : Value) (ts : List (List UInt8)) : Prop := w.ownsRow base 9 1 v ts.length (ts.map strV8)
theorem OwnT8.block {w : World} {base : Nat} {v : Value} {ts : List (List UInt8)} (h : OwnT8 w base v ts) : ∀ k, v.ownBlock = some k → base ≤ k := by
  rcases h.2 with ⟨rfl, _⟩ | ⟨g, cap, cur, rfl, hg, _⟩
  · intro k hk; simp [Value.ownBlock] at hk
  · intro k hk; simp [Value.ownBlock] at hk; omega
theorem OwnT8.kept {w w' : World} {base : Nat} {v : Value} {ts : List (List UInt8)} (h : OwnT8 w base v ts) (c : Chg w w' 0 0) : OwnT8 w' base v ts :=
  row_kept h (fun k _ hk => c.block k hk (.inr (Nat.zero_le _)))
theorem wpList_pushT8 {w : World} {ops : Array Oper} {rest : List Oper} {o : Oper} {a : Act} {Q : Exit → Act → World → Prop} (hgd : o.guard = none) (s x : Operand)
    (ho : o.op = .call { callee := .builtin .append, args := #[s, x], argTypes := #[91, 91] })
    (base : Nat) (v : Value) (ts : List (List UInt8)) (hs : a.eval s = v) (hown : OwnT8 w base v ts) (t : List UInt8)
    (hx : a.eval x = .slice (some ⟨w.heap.size, 0, none⟩) 1 1) (hn : ts.length ≤ 1048576) (hbase : base ≤ w.heap.size)
    (h : ∀ v' w', OwnT8 w' base v' (ts ++ [t]) → Below base w w' → wpList Try.prog ops Q rest (a.put o.dst v') w') : wpList Try.prog ops Q (o :: rest) a (w.alloc (.cells #[.string ⟨t.toArray⟩] 9)) := by
  obtain ⟨i0, hi0, hz0, hz1, hz2⟩ := info_parts strs_info8
  refine wpList_append_own _ hgd s x 91 ho base 9 i0 (.string ⟨#[]⟩) 1 16 Try.underlying91 hi0 hz0 hz1 hz2 rfl (by decide) v ts.length (ts.map strV8) hs (World.ownsRow.alloc hown _)
    ⟨w.heap.size, 0, none⟩ 1 1 [.string ⟨t.toArray⟩] hx rfl ?_ ?_ ?_ ?_ ?_ ?_
  · intro j u hj
    match j, hj with
    | 0, hj => simp at hj; subst hj; simp [Addr.add]
  · intro u hu; simp at hu; subst hu; rfl
  · unfold maxLen; omega
  · omega
  · simp; omega
  · intro v' w' h1 h2 _
    refine h v' w' ?_ ?_
    · unfold OwnT8; rw [List.length_append, List.map_append]; exact h1
    · have hb : Below base w (w.alloc (.cells #[.string ⟨t.toArray⟩] 9)) := (Below.refl _ _).alloc hbase _
      exact hb.grown h2 (by simp; omega) hown.block
theorem make_roomT8 (n : Nat) (hn : n ≤ 1048576) (w : World) : (Instr.makeSlice 91 (.int .i64 0) (.int .i64 (n : Int))).run Try.prog w = .ok (.slice (some ⟨w.heap.size, 0, none⟩) 0 n) (w.alloc (.cells (madeCells #[.string ⟨#[]⟩] n) 9)) := by
  obtain ⟨i0, hi0, hz0, hz1, hz2⟩ := info_parts strs_info8
  have hr := run_make (P := Try.prog) w 91 9 i0 (.string ⟨#[]⟩) Try.underlying91 hi0 hz0 .i64 .i64 0 (n : Int) (Int.le_refl _) (by omega) (by rw [hz2]; omega) (by omega)
  simpa [hz1, Value.cells] using hr
theorem OwnT8.room (w : World) {base : Nat} (hb : base ≤ w.heap.size) (n : Nat) (hn : n ≤ 1048576) : OwnT8 (w.alloc (.cells (madeCells #[.string ⟨#[]⟩] n) 9)) base (.slice (some ⟨w.heap.size, 0, none⟩) 0 n) [] :=
  World.ownsRow_made w _ n hb (by unfold maxLen; omega) (by rw [size_madeCells]; simp)
theorem OwnT8.cells {w : World} {base : Nat} {v : Value} {ts : List (List UInt8)} (h : OwnT8 w base v ts) (hn : 0 < ts.length) : ∃ g c, v = .slice (some ⟨g, 0, none⟩) ts.length c ∧ g < w.heap.size ∧ ts.length ≤ c ∧
    ∀ (j : Nat) x, (ts.map fun t => (⟨t.toArray⟩ : ByteArray))[j]? = some x → w.cell? ⟨g, 0 + j, none⟩ = some (.string x) := by
  rcases h.2 with ⟨_, h0⟩ | ⟨g, cap, cur, rfl, hg, hh, h1, h2, h3, ht⟩
  · omega
  · refine ⟨g, cap, rfl, lt_of_block hh, h1, fun j x hx => ?_⟩
    have hj : j < ts.length := by
      rcases Nat.lt_or_ge j ts.length with e | e
      · exact e
      · rw [List.getElem?_eq_none (by simpa using e)] at hx; cases hx
    rw [Nat.zero_add, cell_of_row w g j cur _ _ hh]
    have e : (cur.toList.take (ts.length * 1))[j]? = (ts.map strV8)[j]? := by rw [ht]
    rw [Nat.mul_one, List.getElem?_take_of_lt hj] at e
    rw [← Array.getElem?_toList, e]
    rw [List.getElem?_map, List.getElem?_eq_getElem hj] at hx ⊢
    simp at hx
    rw [← hx]; rfl
/-- The bytes of a card's text. -/
def ctL (z : Int) : List UInt8 := (cardTextV z).data.toList
theorem ctL_back (z : Int) : (⟨(ctL z).toArray⟩ : ByteArray) = cardTextV z := by
  unfold ctL
  generalize cardTextV z = t
  obtain ⟨⟨l⟩⟩ := t
  rfl
set_option maxHeartbeats 1000000 in
/-- mapEach of CardText over cards. -/
theorem mapCT8 (A : Option Addr) (n c : Nat) (zs : List Int) (w : World) (h : Rd w 0 w.heap.size A n zs) (hn : n ≤ 1048576) :
    Calls Try.prog 85 #[.slice A n c, .func (.func 86) #[] #[]] w fun e w' => ∃ v, e = .returned v ∧ OwnT8 w' w.heap.size v (zs.map ctL) ∧ Below w.heap.size w w' := by
  have hz := h.1
  have hmk := make_roomT8 n hn
  have ho0 := Lib.hid (OwnT8.room w (Nat.le_refl _) n hn)
  have hb0 := Lib.hid ((Below.refl w.heap.size w).alloc (Nat.le_refl _) (.cells (madeCells #[.string ⟨#[]⟩] n) 9))
  go_enter Try.func85, Try.ntmps85
  go_wp2
  clear hmk
  go_loopw [5, 13] (fun v i wr => ∃ k : Nat, k ≤ n ∧ i = .int .i64 k ∧ OwnT8 wr w.heap.size v ((zs.take k).map ctL) ∧ Below w.heap.size w wr) (fun _ i _ => n - (intOf i).toNat)
  case atStart => exact ⟨0, Nat.zero_le _, rfl, ho0.out, hb0.out⟩
  case round =>
    obtain ⟨k, hk, rfl, ho, hb⟩ := hrel
    by_cases hlt : k < n
    · have hkl : (k : Int) < (n : Int) := by omega
      obtain ⟨b, off, rfl, _, hbw, hcs⟩ := h.2 (by omega)
      have hck : wr.cell? ⟨b, off + k, none⟩ = some (.int .i64 (zs.getD k 0)) := by rw [World.cell?_of_block (hb.block b hbw)]; exact hcs k hlt
      have hs : Hid ((zs.take (k + 1)).map ctL = (zs.take k).map ctL ++ [ctL (zs.getD k 0)]) := by show _ = _; rw [List.take_succ_eq_append_getElem (by omega), List.map_append]; simp [List.getD, List.getElem?_eq_getElem (show k < zs.length by omega)]
      have hfk := Lib.hid (impl_CardText (zs.getD k 0) wr)
      rw [← ctL_back] at hfk
      have hl : ((zs.take k).map ctL).length ≤ 1048576 := by simp; omega
      have hsz := hb.size
      clear hcs
      generalize ctL (zs.getD k 0) = gz at hfk hs
      generalize zs.getD k 0 = z at hck hfk
      generalize (zs.take k).map ctL = ys at ho hs hl
      go_wp2_with (first | (go_at_call 86; refine hfk.out.mono ?_; rintro e w1 ⟨rfl, _, c1⟩; have o1 := ho.kept c1; have hs1 := Nat.le_trans hsz c1.size) | (at_builtin; refine wpList_pushT8 rfl _ _ rfl w.heap.size _ _ rfl o1 gz rfl hl hs1 ?_; intro v3 w3 o3 b3))
      rw [← hs.out] at o3
      have hb3 := (Chg.above hb c1 hsz (.inr rfl)).trans b3
      clear ho hb c1 o1 b3 hs
      go_roundw
      case rel => exact ⟨k + 1, by omega, by go_num, o3, hb3⟩
      case measure => simp [intOf]; omega
    · obtain rfl : k = n := by omega
      rw [List.take_of_length_le (by omega)] at ho
      go_wp2
      go_ret
      exact ⟨_, rfl, ho, hb⟩
theorem bytes_back8 (L : List (List UInt8)) : (L.map fun t => (⟨t.toArray⟩ : ByteArray)).map (·.data.toList) = L := by
  rw [List.map_map]
  exact List.map_id' _
/-- The texts of a trick's cards, joined by points. -/
theorem joinCT8 (v : Value) (zs : List Int) (w : World) (base : Nat) (h : OwnT8 w base v (zs.map ctL)) (h0 : 0 < zs.length) (h4 : zs.length ≤ 4) :
    Calls Try.prog 84 #[v, .string ⟨#[46]⟩] w fun e w' => e = .returned (.string ⟨(Lib.join (zs.map ctL) [46]).toArray⟩) ∧ Chg w w' 0 0 := by
  obtain ⟨g, cc, rfl, hg, hcc, hcells⟩ := h.cells (by rw [List.length_map]; exact h0)
  have hjl : (Lib.join (zs.map ctL) [46]).length ≤ 140737488355328 := by
    have hc : ∀ z, (ctL z).length ≤ 2 := fun z => cardTextV_size z
    match zs, h0, h4 with
    | [a], _, _ => have := hc a; simp [Lib.join, List.intercalate]; omega
    | [a, b], _, _ => have := hc a; have := hc b; simp [Lib.join, List.intercalate]; omega
    | [a, b, c], _, _ => have := hc a; have := hc b; have := hc c; simp [Lib.join, List.intercalate]; omega
    | [a, b, c, d], _, _ => have := hc a; have := hc b; have := hc c; have := hc d; simp [Lib.join, List.intercalate]; omega
  have HJ := Try.strings_Join g 0 cc ((zs.map ctL).map fun t => (⟨t.toArray⟩ : ByteArray)) ⟨#[46]⟩ w hcells hg (by rw [List.length_map, List.length_map]; omega) (by rw [List.length_map]; exact hcc) (by rw [bytes_back8]; exact hjl)
  rw [List.length_map, bytes_back8] at HJ
  exact HJ.mono fun e w' ⟨he, hb⟩ => ⟨he, Chg.of_below hb 0 0⟩
theorem joinCT_size8 (zs : List Int) (h4 : zs.length ≤ 4) : (ByteArray.mk (Lib.join (zs.map ctL) [46]).toArray).size ≤ 16 := by
  have hc : ∀ z, (ctL z).length ≤ 2 := fun z => cardTextV_size z
  show (Lib.join (zs.map ctL) [46]).toArray.size ≤ 16
  rw [List.size_toArray]
  match zs, h4 with
  | [], _ => simp [Lib.join, List.intercalate]
  | [a], _ => have := hc a; simp [Lib.join, List.intercalate]; omega
  | [a, b], _ => have := hc a; have := hc b; simp [Lib.join, List.intercalate]; omega
  | [a, b, c], _ => have := hc a; have := hc b; have := hc c; simp [Lib.join, List.intercalate]; omega
  | [a, b, c, d], _ => have := hc a; have := hc b; have := hc c; have := hc d; simp [Lib.join, List.intercalate]; omega
/-- A trick's text. -/
theorem pt_trick {st ld : Int} {cs : List Int} {k e : Nat} (hk : k % 4 = 0) (h0 : 0 < e) (h4 : e ≤ 4) (he : k + e ≤ cs.length) : ptTo st ld cs (k + e) = (ptTo st ld cs k ++ ⟨#[32]⟩) ++ ⟨(Lib.join (((cs.drop k).take e).map ctL) [46]).toArray⟩ := by
  have hg : ∀ i, (cs.drop k).getD i 0 = cs.getD (k + i) 0 := fun i => by simp [List.getD, List.getElem?_drop]
  have hl : (cs.drop k).length = cs.length - k := List.length_drop
  have g0 : gapT k = ⟨#[32]⟩ := by unfold gapT gapB; rw [if_pos hk]
  have g1 : gapT (k + 1) = ⟨#[46]⟩ := by unfold gapT gapB; rw [if_neg (by omega)]
  have g2 : gapT (k + 1 + 1) = ⟨#[46]⟩ := by unfold gapT gapB; rw [if_neg (by omega)]
  have g3 : gapT (k + 1 + 1 + 1) = ⟨#[46]⟩ := by unfold gapT gapB; rw [if_neg (by omega)]
  have e0 := hg 0
  have e1 := hg 1
  have e2 := hg 2
  have e3 := hg 3
  generalize cs.drop k = ds at *
  have ext : ∀ (a b : ByteArray), a.data.toList = b.data.toList → a = b := fun a b h => by
    obtain ⟨⟨x⟩⟩ := a
    obtain ⟨⟨y⟩⟩ := b
    simp at h
    rw [h]
  have hE : e = 1 ∨ e = 2 ∨ e = 3 ∨ e = 4 := by omega
  apply ext
  rcases hE with rfl | rfl | rfl | rfl
  · match ds, hl with
    | a :: r, _ =>
      simp at e0
      rw [show ptTo st ld cs (k + 1) = (ptTo st ld cs k ++ gapT k) ++ cardTextV (cs.getD k 0) from rfl, g0, app_data8, app_data8, app_data8, app_data8]
      simp [Lib.join, List.intercalate, ctL, e0]
    | [], h => simp at h; omega
  · match ds, hl with
    | a :: b :: r, _ =>
      simp at e0 e1
      rw [show ptTo st ld cs (k + 2) = (ptTo st ld cs (k + 1) ++ gapT (k + 1)) ++ cardTextV (cs.getD (k + 1) 0) from rfl, show ptTo st ld cs (k + 1) = (ptTo st ld cs k ++ gapT k) ++ cardTextV (cs.getD k 0) from rfl, g0, g1]
      simp only [app_data8]
      simp [Lib.join, List.intercalate, ctL, e0, e1]
    | [], h => simp at h; omega
    | [_], h => simp at h; omega
  · match ds, hl with
    | a :: b :: c :: r, _ =>
      simp at e0 e1 e2
      rw [show ptTo st ld cs (k + 3) = (ptTo st ld cs (k + 1 + 1) ++ gapT (k + 1 + 1)) ++ cardTextV (cs.getD (k + 1 + 1) 0) from rfl, show ptTo st ld cs (k + 1 + 1) = (ptTo st ld cs (k + 1) ++ gapT (k + 1)) ++ cardTextV (cs.getD (k + 1) 0) from rfl, show ptTo st ld cs (k + 1) = (ptTo st ld cs k ++ gapT k) ++ cardTextV (cs.getD k 0) from rfl, g0, g1, g2]
      simp only [app_data8]
      simp [Lib.join, List.intercalate, ctL, e0, e1, e2]
    | [], h => simp at h; omega
    | [_], h => simp at h; omega
    | [_, _], h => simp at h; omega
  · match ds, hl with
    | a :: b :: c :: d :: r, _ =>
      simp at e0 e1 e2 e3
      rw [show ptTo st ld cs (k + 4) = (ptTo st ld cs (k + 1 + 1 + 1) ++ gapT (k + 1 + 1 + 1)) ++ cardTextV (cs.getD (k + 1 + 1 + 1) 0) from rfl, show ptTo st ld cs (k + 1 + 1 + 1) = (ptTo st ld cs (k + 1 + 1) ++ gapT (k + 1 + 1)) ++ cardTextV (cs.getD (k + 1 + 1) 0) from rfl, show ptTo st ld cs (k + 1 + 1) = (ptTo st ld cs (k + 1) ++ gapT (k + 1)) ++ cardTextV (cs.getD (k + 1) 0) from rfl, show ptTo st ld cs (k + 1) = (ptTo st ld cs k ++ gapT k) ++ cardTextV (cs.getD k 0) from rfl, g0, g1, g2, g3]
      simp only [app_data8]
      simp [Lib.join, List.intercalate, ctL, e0, e1, e2, e3]
    | [], h => simp at h; omega
    | [_], h => simp at h; omega
    | [_, _], h => simp at h; omega
    | [_, _, _], h => simp at h; omega
end Go.Proofs.Yteglffbeldlibaa.Lib1
