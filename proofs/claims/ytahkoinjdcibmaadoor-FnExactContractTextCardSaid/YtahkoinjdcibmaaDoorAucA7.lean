/- Chapter 7: the model's l07Add, LegalCalls and AddCall. (Written by wip/gen7a.py.) -/
import Derived.Test.YtahkoinjdcibmaaDoorAucI7
import Derived.Laws.AppendOwnNone
import Derived.OwnWalk
namespace Go.Proofs.YtahkoinjdcibmaaDoor.Lib1
open Go.RowKit
set_option maxRecDepth 100000

theorem step_of_wp7 {P : Program} {ops : Array Oper} {o : Oper} {a : Act} {w : World} {K : Act → World → Prop} {Q : Exit → Act → World → Prop} {E : Prop} (hg : o.guard = none) (h : o.wp P a w K Q) :
    if Region.wanted o (yielded ops a.tmps) = true then Oper.wp P o a w K Q else E := by
  have hw : Region.wanted o (yielded ops a.tmps) = true := by simp [Region.wanted, hg]
  rw [if_pos hw]; exact h
/-- 'append(out, xs...)' of numbers, in a region that draws; no other block turns. -/
theorem step_cat7 {w : World} {ops : Array Oper} {o : Oper} {a : Act} {K : Act → World → Prop} {Q : Exit → Act → World → Prop} {E : Prop} (hgd : o.guard = none) (s x : Operand)
    (ho : o.op = .call { callee := .builtin .append, args := #[s, x], argTypes := #[24, 24] })
    (base : Nat) (v : Value) (zs : List Int) (hs : a.eval s = v) (hown : OwnV w base v zs) (lo hi : Nat) (A : Option Addr) (m c : Nat) (ys : List Int)
    (hx : a.eval x = .slice A m c) (hnil : A = none → c = 0) (hr : Rd w lo hi A m ys) (hn : zs.length + m ≤ 1048577) (hbase : base ≤ w.heap.size)
    (h : ∀ v' w', OwnV w' base v' (zs ++ ys) → Below base w w' → (∀ k, k < w.heap.size → v.ownBlock ≠ some k → w'.heap[k]? = w.heap[k]?) → K (a.put o.dst v') w') :
    if Region.wanted o (yielded ops a.tmps) = true then Oper.wp Tryd.prog o a w K Q else E := by
  apply step_of_wp7 hgd
  obtain ⟨i0, hi0, hz0, hz1, hz2⟩ := info_parts cells_info
  have hm := hr.1
  cases A with
  | none =>
    have h0 : m = 0 := by
      rcases Nat.eq_zero_or_pos m with e | e
      · exact e
      · obtain ⟨b, off, e', _⟩ := hr.2 e; cases e'
    subst h0
    have hy : ys = [] := List.eq_nil_of_length_eq_zero hm
    subst hy
    obtain rfl := hnil rfl
    have hrun := run_append_owned_none (P := Tryd.prog) (w := w) base 24 o.type 2 i0 1 Tryd.underlying24 hi0 v zs.length (zs.map (Value.int .i64)) hown
    unfold Oper.wp
    simp [execOp, ho, resolve, invoke, builtin, hs, hx, hrun, Result.andThen]
    exact h v w (by simpa using hown) (Below.refl _ _) (fun _ _ _ => rfl)
  | some ad =>
    refine wp_append_own _ s x 24 ho base 2 i0 (.int .i64 0) 1 8 Tryd.underlying24 hi0 hz0 hz1 hz2 rfl (by decide) v zs.length (zs.map (Value.int .i64)) hs hown
      ad m c (ys.map (Value.int .i64)) hx (by simpa using hm) ?_ ?_ ?_ ?_ hbase ?_
    · intro j u hj
      have hj' : j < ys.length := by
        rcases Nat.lt_or_ge j ys.length with e | e
        · exact e
        · rw [List.getElem?_eq_none (by simpa using e)] at hj; cases hj
      obtain ⟨b, off, e, _, _, hc⟩ := hr.2 (by omega)
      injection e with e
      subst e
      have hplain : (⟨b, off, none⟩ : Addr).add j = ⟨b, off + j, none⟩ := by unfold Addr.add; split <;> simp_all
      rw [hplain, hc j (by omega)]
      simp [List.getElem?_eq_getElem hj'] at hj
      rw [← hj]
      simp [List.getD, List.getElem?_eq_getElem hj']
    · intro u hu
      obtain ⟨q, _, rfl⟩ := List.mem_map.1 hu
      rfl
    · unfold maxLen; omega
    · omega
    · intro v' w' h1 h2 _
      refine h v' w' ?_ ((Below.refl _ _).grown h2 hbase hown.block) (fun k hk hne => h2.block k hk (fun e => hne e.symm))
      unfold OwnV
      rw [List.length_append, List.map_append, hm]
      exact h1
theorem OwnV.lt7 {w : World} {base : Nat} {v : Value} {zs : List Int} (h : OwnV w base v zs) {k : Nat} (hk : v.ownBlock = some k) : k < w.heap.size := by
  rcases h.2 with ⟨rfl, _⟩ | ⟨g, cap, cur, rfl, _, hh, _⟩
  · simp [Value.ownBlock] at hk
  · simp [Value.ownBlock] at hk; subst hk; exact lt_of_block hh
theorem Rd.one7 {w : World} {e : Nat} {x : Int} (h : w.heap[e]? = some (.cells #[.int .i64 x] 2 (0, 0))) : Rd w 0 w.heap.size (some ⟨e, 0, none⟩) 1 [x] :=
  ⟨rfl, fun _ => ⟨e, 0, rfl, Nat.zero_le _, lt_of_block h, fun j hj => by
    have hj0 : j = 0 := by omega
    subst hj0
    rw [cell_of_row w e (0 + 0) _ _ _ h]
    rfl⟩⟩
theorem Rp.below7 {w w' : World} {B : Nat} {A : Option Addr} {n : Nat} {zs : List Int} (h : Rp w A n zs) (b : Below B w w') (hB : w.heap.size ≤ B) : Rp w' A n zs := fun hn => by
  obtain ⟨q, off, e, hc⟩ := h hn
  exact ⟨q, off, e, fun j hj => by rw [World.cell?_of_block (b.block q (by have hq : q < w.heap.size := lt_of_cell (hc j hj); omega))]; exact hc j hj⟩
/-- An auction is handed back in memory of the call's own. -/
def RetA (w : World) (d : Int) (zs : List Int) (e : Ending) (w' : World) : Prop := ∃ v, e = .returned (.agg #[.int .i64 d, v]) ∧ OwnV w' w.heap.size v zs ∧ Below w.heap.size w w'
def aucZero : Array Value := #[.int .i64 0, .slice none 0 0]
theorem auc_cells (d : Int) (A : Option Addr) (n c : Nat) : (#[.int .i64 d, .slice A n c] : Array Value).all (·.oneCell') = true := by kernel_rfl

theorem rowB {B : Nat} (w : World) {g : Nat} (hg : B ≤ g) (cs : Array Value) : Below B w (w.setRow g cs) := ⟨rfl, rfl, rfl, by rw [setRow_size]; exact Nat.le_refl _, fun k hk => setRow_other w g k cs (by omega)⟩
theorem OwnV.far {w : World} {base g : Nat} {v : Value} {zs : List Int} (h : OwnV w base v zs) (w' : World) (cs : Array Value) (hg : g < base) (hw : w = w' := by rfl) : OwnV (w'.setRow g cs) base v zs := by
  subst hw
  refine ⟨h.1, ?_⟩
  rcases h.2 with h0 | ⟨b, cap, cur, hv, hb, hh, r⟩
  · exact .inl h0
  · exact .inr ⟨b, cap, cur, hv, hb, (setRow_other w g b cs (by omega)).trans hh, r⟩
set_option maxHeartbeats 8000000 in
/-- spec.l07Add -/
theorem l07Add (d : Int) (A : Option Addr) (n c : Nat) (zs : List Int) (x : Int) (w : World) (h : Rd w 0 w.heap.size A n zs) (hn : n ≤ 1048576) (hnil : A = none → c = 0) :
    Calls Tryd.prog 53 #[.agg #[.int .i64 d, .slice A n c], .int .i64 x] w (RetA w d (zs ++ [x])) := by
  have hlen := h.1
  go_enter Tryd.func53, Tryd.ntmps53
  go_wp2_with fail
  have KW := Lib.hid ((((Below.refl w.heap.size w).alloc (Nat.le_refl _) (.cells #[.int .i64 d, .slice A n c] 26)).alloc (by simp) (.cells aucZero 26)).drew)
  have HB := Lib.hid ((ABox.new w d A n c).still (Chg.of_alloc (w.alloc (.cells #[.int .i64 d, .slice A n c] 26)) (.cells aucZero 26) 0 0))
  have HZ := Lib.hid (heap_alloc_new (w.alloc (.cells #[.int .i64 d, .slice A n c] 26)) (.cells aucZero 26))
  have e1 : (w.alloc (.cells #[.int .i64 d, .slice A n c] 26)).heap.size = w.heap.size + 1 := by simp
  rw [e1] at HZ
  have hsz0 : w.heap.size + 2 ≤ ((w.alloc (.cells #[.int .i64 d, .slice A n c] 26)).alloc (.cells aucZero 26)).drew.heap.size := by simp
  have HRd := Lib.hid (h.below (KW.out) (Nat.le_refl _))
  change Hid (Below w.heap.size w ((w.alloc (.cells #[.int .i64 d, .slice A n c] 26)).alloc (.cells #[.int .i64 0, .slice none 0 0] 26)).drew) at KW
  refine wp_region_held_drew (S := fun V => V.cell? ⟨w.heap.size, 0, none⟩ = some (.int .i64 d) ∧ V.cell? ⟨w.heap.size, 1, none⟩ = some (.slice A n c)) (by kernel_rfl) ⟨HB.out.c0, HB.out.c1⟩ (fun hHeld => ?_)
  have HZ : Hid (((w.alloc (.cells #[.int .i64 d, .slice A n c] 26)).alloc (.cells #[.int .i64 0, .slice none 0 0] 26)).drew.heap[w.heap.size + 1]? = some (.cells aucZero 26 (0, 0))) := HZ.out
  have HB : Hid (ABox ((w.alloc (.cells #[.int .i64 d, .slice A n c] 26)).alloc (.cells #[.int .i64 0, .slice none 0 0] 26)).drew w.heap.size d A n c) := HB.out
  have HRd : Hid (Rd ((w.alloc (.cells #[.int .i64 d, .slice A n c] 26)).alloc (.cells #[.int .i64 0, .slice none 0 0] 26)).drew 0 w.heap.size A n zs) := HRd.out
  have hsz0 : w.heap.size + 2 ≤ ((w.alloc (.cells #[.int .i64 d, .slice A n c] 26)).alloc (.cells #[.int .i64 0, .slice none 0 0] 26)).drew.heap.size := hsz0
  generalize ((w.alloc (.cells #[.int .i64 d, .slice A n c] 26)).alloc (.cells #[.int .i64 0, .slice none 0 0] 26)).drew = v0 at KW HB HZ HRd hsz0 hHeld ⊢
  clear e1 h
  have HSX := Lib.hid (fun (V : World) (b : Below (w.heap.size + 1) v0 V) => (show V.cell? ⟨w.heap.size, 0, none⟩ = some (.int .i64 d) ∧ V.cell? ⟨w.heap.size, 1, none⟩ = some (.slice A n c) from ⟨by rw [World.cell?_of_block (b.block w.heap.size (by omega))]; exact HB.out.c0, by rw [World.cell?_of_block (b.block w.heap.size (by omega))]; exact HB.out.c1⟩))
  have HRX := Lib.hid (fun (V : World) (b : Below (w.heap.size + 2) v0 V) => (HRd.out.below b (by omega) : Rd V 0 w.heap.size A n zs))
  have KB := Lib.hid (Below.refl (w.heap.size + 2) v0)
  refine take_slotC (i := 0) (d := some 5) (v := .pointer (some ⟨w.heap.size, 0, none⟩)) rfl (by kernel_rfl) (by kernel_rfl) (by kernel_rfl) (by kernel_rfl) (fun _ _ _ h => h) (.inl ⟨by kernel_rfl, fun V hV => by obtain ⟨hV1, hV2⟩ := hV; go_simp⟩) hHeld ?_
  try simp only [Act.put, List.setIfInBounds_toArray, List.set_cons_zero, List.set_cons_succ]
  refine take_slotC (i := 1) (d := some 6) (v := .int .i64 d) rfl (by kernel_rfl) (by kernel_rfl) (by kernel_rfl) (by kernel_rfl) (fun _ _ _ h => h) (.inl ⟨by kernel_rfl, fun V hV => by obtain ⟨hV1, hV2⟩ := hV; go_simp⟩) hHeld ?_
  try simp only [Act.put, List.setIfInBounds_toArray, List.set_cons_zero, List.set_cons_succ]
  refine take_slotC (i := 3) (d := some 8) (v := .pointer (some ⟨w.heap.size, 1, none⟩)) rfl (by kernel_rfl) (by kernel_rfl) (by kernel_rfl) (by kernel_rfl) (fun _ _ _ h => h) (.inl ⟨by kernel_rfl, fun V hV => by obtain ⟨hV1, hV2⟩ := hV; go_simp⟩) hHeld ?_
  try simp only [Act.put, List.setIfInBounds_toArray, List.set_cons_zero, List.set_cons_succ]
  refine take_slotC (i := 4) (d := some 9) (v := .slice A n c) rfl (by kernel_rfl) (by kernel_rfl) (by kernel_rfl) (by kernel_rfl) (fun _ _ _ h => h) (.inl ⟨by kernel_rfl, fun V hV => by obtain ⟨hV1, hV2⟩ := hV; go_simp⟩) hHeld ?_
  try simp only [Act.put, List.setIfInBounds_toArray, List.set_cons_zero, List.set_cons_succ]
  refine take_slotC (i := 6) (d := some 11) (v := .int .i64 x) rfl (by kernel_rfl) (by kernel_rfl) (by kernel_rfl) (by kernel_rfl) (fun _ _ _ h => h) (.inl ⟨by kernel_rfl, fun V hV => by obtain ⟨hV1, hV2⟩ := hV; go_simp⟩) hHeld ?_
  try simp only [Act.put, List.setIfInBounds_toArray, List.set_cons_zero, List.set_cons_succ]
  refine wpAnyH_ready (rs := [2, 7]) (by kernel_rfl) (by simp) (AllReadyH.cons (i := 2) rfl (fun K' hK' => ?n_2) (AllReadyH.cons (i := 7) rfl (fun K' hK' => ?n_7) AllReadyH.nil))
  case' n_2 =>
    go_simp
    have hsz := KB.out.size
    have OV := Lib.hid (OwnV.made v0 (base := w.heap.size + 2) (by omega))
    have KW := Lib.hid (KW.out.alloc (show w.heap.size ≤ v0.heap.size by omega) (.cells #[] 2))
    have KB := Lib.hid (KB.out.alloc (show w.heap.size + 2 ≤ v0.heap.size by omega) (.cells #[] 2))
    refine hK'.out _ _ (HSX.out _ (KB.out.mono (by omega))) (fun hHeld => ?_)
    clear hK' hsz
    obtain ⟨u2, hu2⟩ : ∃ u, u = Value.slice (some ⟨v0.heap.size, 0, none⟩) 0 0 := ⟨_, rfl⟩
    rw [← hu2] at OV ⊢
    clear hu2
    generalize v0.alloc (.cells #[] 2) = v1 at KW KB OV ⊢
    refine wpAnyH_ready (rs := [5, 7]) (by kernel_rfl) (by simp) (AllReadyH.cons (i := 5) rfl (fun K' hK' => ?n2_5) (AllReadyH.cons (i := 7) rfl (fun K' hK' => ?n2_7) AllReadyH.nil))
    case' n2_5 =>
      have hsz := KB.out.size
      refine step_cat7 rfl (.tmp 7) (.tmp 9) rfl (w.heap.size + 2) u2 [] (by rfl) OV.out 0 w.heap.size A n c zs (by rfl) hnil (HRX.out _ KB.out) (by simp; omega) (by omega) ?_
      intro u5 v2 OV b5 k5
      have OV := Lib.hid (show OwnV v2 (w.heap.size + 2) u5 zs by simpa using OV)
      have KW := Lib.hid (KW.out.trans (b5.mono (by omega)))
      have KB := Lib.hid (KB.out.trans b5)
      clear b5 k5 hsz
      refine hK'.out _ _ (HSX.out _ (KB.out.mono (by omega))) (fun hHeld => ?_)
      clear hK'
      refine wpAnyH_ready (rs := [7]) (by kernel_rfl) (by simp) (AllReadyH.cons (i := 7) rfl (fun K' hK' => ?n25_7) AllReadyH.nil)
      case' n25_7 =>
        go_simp
        have hsz := KB.out.size
        have ONE := Lib.hid (heap_alloc_new v2 (.cells #[.int .i64 x] 2))
        have NE := Lib.hid (show u5.ownBlock ≠ some v2.heap.size from fun q => by have := OV.out.lt7 q; omega)
        have OV := Lib.hid (OV.out.alloc (.cells #[.int .i64 x] 2))
        have KW := Lib.hid (KW.out.alloc (show w.heap.size ≤ v2.heap.size by omega) (.cells #[.int .i64 x] 2))
        have KB := Lib.hid (KB.out.alloc (show w.heap.size + 2 ≤ v2.heap.size by omega) (.cells #[.int .i64 x] 2))
        refine hK'.out _ _ (HSX.out _ (KB.out.mono (by omega))) (fun hHeld => ?_)
        clear hK' hsz
        obtain ⟨e, he⟩ : ∃ e, e = v2.heap.size := ⟨_, rfl⟩
        rw [← he] at ONE NE ⊢
        clear he
        generalize v2.alloc (.cells #[.int .i64 x] 2) = v3 at KW KB OV ONE ⊢
        have ONE0 := ONE
        refine wpAnyH_ready (rs := [8]) (by kernel_rfl) (by simp) (AllReadyH.cons (i := 8) rfl (fun K' hK' => ?n257_8) AllReadyH.nil)
        case' n257_8 =>
          have hsz := KB.out.size
          refine step_cat7 rfl (.tmp 10) (.tmp 12) rfl (w.heap.size + 2) u5 zs (by rfl) OV.out 0 _ (some ⟨e, 0, none⟩) 1 1 [x] (by rfl) (fun h => by cases h) (Rd.one7 ONE.out) (by omega) (by omega) ?_
          intro u8 v4 OV b8 k8
          have OV := Lib.hid OV
          have KW := Lib.hid (KW.out.trans (b8.mono (by omega)))
          have KB := Lib.hid (KB.out.trans b8)
          clear b8 k8
          refine hK'.out _ _ (HSX.out _ (KB.out.mono (by omega))) (fun hHeld => ?_)
          clear hK'
          obtain ⟨B, cb, hu, _⟩ := OV.out.form
          generalize hm : (zs ++ [x]).length = m at hu
          clear hm
          subst hu
          have hsz := KB.out.size
          have HRB := Lib.hid (show v4.heap[w.heap.size + 1]? = some (.cells aucZero 26 (0, 0)) from (KB.out.block (w.heap.size + 1) (by omega)).trans HZ.out)
          have HS2 := Lib.hid (setRow_heap v4 (w.heap.size + 1) _ #[.int .i64 d, .slice B m cb] _ _ HRB.out)
          have KS := Lib.hid (show Below w.heap.size w (v4.setRow (w.heap.size + 1) #[.int .i64 d, .slice B m cb]) from KW.out.trans (rowB v4 (by omega) _))
          have OV2 := Lib.hid (show OwnV (v4.setRow (w.heap.size + 1) #[.int .i64 d, .slice B m cb]) w.heap.size (.slice B m cb) (zs ++ [x]) from (OV.out.far v4 _ (by omega)).more (by omega))
          refine wpAnyH_ready (rs := [9]) (by kernel_rfl) (by simp) (AllReadyH.cons (i := 9) rfl (fun K' hK' => ?_) AllReadyH.nil)
          go_simp
          refine hK'.out _ _ (HSX.out v4 (KB.out.mono (by omega))) (fun hHeld => ?_)
          clear hK'
          refine wpAnyH_ready (rs := [10]) (by kernel_rfl) (by simp) (AllReadyH.cons (i := 10) rfl (fun K' hK' => ?_) AllReadyH.nil)
          refine step_of_wp7 rfl (wp_store_row 26 _ _ rfl (w.heap.size + 1) #[.int .i64 d, .slice B m cb] rfl rfl 26 aucZero HRB.out (auc_info d B m cb) rfl (auc_cells d B m cb) ?_)
          refine hK'.out _ _ (HSX.out _ ((KB.out.mono (by omega)).trans (rowB _ (Nat.le_refl _) _))) (fun hHeld => ?_)
          clear hK'
          refine wpAnyH_done (by kernel_rfl) ?_ _
          go_wp2_with fail
          refine bodyPost_ret (v := .agg #[.int .i64 d, .slice B m cb]) (results_cell_row Tryd.results53 _ _ (w.heap.size + 1) 26 #[.int .i64 d, .slice B m cb] (0, 0) _ rfl HS2.out Tryd.underlying26 rfl (auc_info d B m cb)) rfl ?_
          exact ⟨_, rfl, OV2.out, KS.out⟩
    case' n2_7 =>
      go_simp
      have hsz := KB.out.size
      have ONE := Lib.hid (heap_alloc_new v1 (.cells #[.int .i64 x] 2))
      have NE := Lib.hid (show u2.ownBlock ≠ some v1.heap.size from fun q => by have := OV.out.lt7 q; omega)
      have OV := Lib.hid (OV.out.alloc (.cells #[.int .i64 x] 2))
      have KW := Lib.hid (KW.out.alloc (show w.heap.size ≤ v1.heap.size by omega) (.cells #[.int .i64 x] 2))
      have KB := Lib.hid (KB.out.alloc (show w.heap.size + 2 ≤ v1.heap.size by omega) (.cells #[.int .i64 x] 2))
      refine hK'.out _ _ (HSX.out _ (KB.out.mono (by omega))) (fun hHeld => ?_)
      clear hK' hsz
      obtain ⟨e, he⟩ : ∃ e, e = v1.heap.size := ⟨_, rfl⟩
      rw [← he] at ONE NE ⊢
      clear he
      generalize v1.alloc (.cells #[.int .i64 x] 2) = v2 at KW KB OV ONE ⊢
      have ONE0 := ONE
      refine wpAnyH_ready (rs := [5]) (by kernel_rfl) (by simp) (AllReadyH.cons (i := 5) rfl (fun K' hK' => ?n27_5) AllReadyH.nil)
      case' n27_5 =>
        have hsz := KB.out.size
        refine step_cat7 rfl (.tmp 7) (.tmp 9) rfl (w.heap.size + 2) u2 [] (by rfl) OV.out 0 w.heap.size A n c zs (by rfl) hnil (HRX.out _ KB.out) (by simp; omega) (by omega) ?_
        intro u5 v3 OV b5 k5
        have ONE := Lib.hid ((k5 e (lt_of_block ONE.out) NE.out).trans ONE.out)
        clear NE
        have OV := Lib.hid (show OwnV v3 (w.heap.size + 2) u5 zs by simpa using OV)
        have KW := Lib.hid (KW.out.trans (b5.mono (by omega)))
        have KB := Lib.hid (KB.out.trans b5)
        clear b5 k5 hsz
        refine hK'.out _ _ (HSX.out _ (KB.out.mono (by omega))) (fun hHeld => ?_)
        clear hK'
        refine wpAnyH_ready (rs := [8]) (by kernel_rfl) (by simp) (AllReadyH.cons (i := 8) rfl (fun K' hK' => ?n275_8) AllReadyH.nil)
        case' n275_8 =>
          have hsz := KB.out.size
          refine step_cat7 rfl (.tmp 10) (.tmp 12) rfl (w.heap.size + 2) u5 zs (by rfl) OV.out 0 _ (some ⟨e, 0, none⟩) 1 1 [x] (by rfl) (fun h => by cases h) (Rd.one7 ONE.out) (by omega) (by omega) ?_
          intro u8 v4 OV b8 k8
          have OV := Lib.hid OV
          have KW := Lib.hid (KW.out.trans (b8.mono (by omega)))
          have KB := Lib.hid (KB.out.trans b8)
          clear b8 k8
          refine hK'.out _ _ (HSX.out _ (KB.out.mono (by omega))) (fun hHeld => ?_)
          clear hK'
          obtain ⟨B, cb, hu, _⟩ := OV.out.form
          generalize hm : (zs ++ [x]).length = m at hu
          clear hm
          subst hu
          have hsz := KB.out.size
          have HRB := Lib.hid (show v4.heap[w.heap.size + 1]? = some (.cells aucZero 26 (0, 0)) from (KB.out.block (w.heap.size + 1) (by omega)).trans HZ.out)
          have HS2 := Lib.hid (setRow_heap v4 (w.heap.size + 1) _ #[.int .i64 d, .slice B m cb] _ _ HRB.out)
          have KS := Lib.hid (show Below w.heap.size w (v4.setRow (w.heap.size + 1) #[.int .i64 d, .slice B m cb]) from KW.out.trans (rowB v4 (by omega) _))
          have OV2 := Lib.hid (show OwnV (v4.setRow (w.heap.size + 1) #[.int .i64 d, .slice B m cb]) w.heap.size (.slice B m cb) (zs ++ [x]) from (OV.out.far v4 _ (by omega)).more (by omega))
          refine wpAnyH_ready (rs := [9]) (by kernel_rfl) (by simp) (AllReadyH.cons (i := 9) rfl (fun K' hK' => ?_) AllReadyH.nil)
          go_simp
          refine hK'.out _ _ (HSX.out v4 (KB.out.mono (by omega))) (fun hHeld => ?_)
          clear hK'
          refine wpAnyH_ready (rs := [10]) (by kernel_rfl) (by simp) (AllReadyH.cons (i := 10) rfl (fun K' hK' => ?_) AllReadyH.nil)
          refine step_of_wp7 rfl (wp_store_row 26 _ _ rfl (w.heap.size + 1) #[.int .i64 d, .slice B m cb] rfl rfl 26 aucZero HRB.out (auc_info d B m cb) rfl (auc_cells d B m cb) ?_)
          refine hK'.out _ _ (HSX.out _ ((KB.out.mono (by omega)).trans (rowB _ (Nat.le_refl _) _))) (fun hHeld => ?_)
          clear hK'
          refine wpAnyH_done (by kernel_rfl) ?_ _
          go_wp2_with fail
          refine bodyPost_ret (v := .agg #[.int .i64 d, .slice B m cb]) (results_cell_row Tryd.results53 _ _ (w.heap.size + 1) 26 #[.int .i64 d, .slice B m cb] (0, 0) _ rfl HS2.out Tryd.underlying26 rfl (auc_info d B m cb)) rfl ?_
          exact ⟨_, rfl, OV2.out, KS.out⟩
  case' n_7 =>
    go_simp
    have hsz := KB.out.size
    have ONE := Lib.hid (heap_alloc_new v0 (.cells #[.int .i64 x] 2))
    have KW := Lib.hid (KW.out.alloc (show w.heap.size ≤ v0.heap.size by omega) (.cells #[.int .i64 x] 2))
    have KB := Lib.hid (KB.out.alloc (show w.heap.size + 2 ≤ v0.heap.size by omega) (.cells #[.int .i64 x] 2))
    refine hK'.out _ _ (HSX.out _ (KB.out.mono (by omega))) (fun hHeld => ?_)
    clear hK' hsz
    obtain ⟨e, he⟩ : ∃ e, e = v0.heap.size := ⟨_, rfl⟩
    rw [← he] at ONE ⊢
    clear he
    generalize v0.alloc (.cells #[.int .i64 x] 2) = v1 at KW KB ONE ⊢
    have ONE0 := ONE
    refine wpAnyH_ready (rs := [2]) (by kernel_rfl) (by simp) (AllReadyH.cons (i := 2) rfl (fun K' hK' => ?n7_2) AllReadyH.nil)
    case' n7_2 =>
      go_simp
      have hsz := KB.out.size
      have OV := Lib.hid (OwnV.made v1 (base := w.heap.size + 2) (by omega))
      have ONE := Lib.hid ((Below.heap_alloc v1 (.cells #[] 2) e (lt_of_block ONE.out)).trans ONE.out)
      have NE := Lib.hid (show (Value.slice (some ⟨v1.heap.size, 0, none⟩) 0 0).ownBlock ≠ some e from fun q => by simp [Value.ownBlock] at q; have := lt_of_block ONE0.out; omega)
      have KW := Lib.hid (KW.out.alloc (show w.heap.size ≤ v1.heap.size by omega) (.cells #[] 2))
      have KB := Lib.hid (KB.out.alloc (show w.heap.size + 2 ≤ v1.heap.size by omega) (.cells #[] 2))
      refine hK'.out _ _ (HSX.out _ (KB.out.mono (by omega))) (fun hHeld => ?_)
      clear hK' hsz
      obtain ⟨u2, hu2⟩ : ∃ u, u = Value.slice (some ⟨v1.heap.size, 0, none⟩) 0 0 := ⟨_, rfl⟩
      rw [← hu2] at OV NE ⊢
      clear hu2
      generalize v1.alloc (.cells #[] 2) = v2 at KW KB OV ONE ⊢
      refine wpAnyH_ready (rs := [5]) (by kernel_rfl) (by simp) (AllReadyH.cons (i := 5) rfl (fun K' hK' => ?n72_5) AllReadyH.nil)
      case' n72_5 =>
        have hsz := KB.out.size
        refine step_cat7 rfl (.tmp 7) (.tmp 9) rfl (w.heap.size + 2) u2 [] (by rfl) OV.out 0 w.heap.size A n c zs (by rfl) hnil (HRX.out _ KB.out) (by simp; omega) (by omega) ?_
        intro u5 v3 OV b5 k5
        have ONE := Lib.hid ((k5 e (lt_of_block ONE.out) NE.out).trans ONE.out)
        clear NE
        have OV := Lib.hid (show OwnV v3 (w.heap.size + 2) u5 zs by simpa using OV)
        have KW := Lib.hid (KW.out.trans (b5.mono (by omega)))
        have KB := Lib.hid (KB.out.trans b5)
        clear b5 k5 hsz
        refine hK'.out _ _ (HSX.out _ (KB.out.mono (by omega))) (fun hHeld => ?_)
        clear hK'
        refine wpAnyH_ready (rs := [8]) (by kernel_rfl) (by simp) (AllReadyH.cons (i := 8) rfl (fun K' hK' => ?n725_8) AllReadyH.nil)
        case' n725_8 =>
          have hsz := KB.out.size
          refine step_cat7 rfl (.tmp 10) (.tmp 12) rfl (w.heap.size + 2) u5 zs (by rfl) OV.out 0 _ (some ⟨e, 0, none⟩) 1 1 [x] (by rfl) (fun h => by cases h) (Rd.one7 ONE.out) (by omega) (by omega) ?_
          intro u8 v4 OV b8 k8
          have OV := Lib.hid OV
          have KW := Lib.hid (KW.out.trans (b8.mono (by omega)))
          have KB := Lib.hid (KB.out.trans b8)
          clear b8 k8
          refine hK'.out _ _ (HSX.out _ (KB.out.mono (by omega))) (fun hHeld => ?_)
          clear hK'
          obtain ⟨B, cb, hu, _⟩ := OV.out.form
          generalize hm : (zs ++ [x]).length = m at hu
          clear hm
          subst hu
          have hsz := KB.out.size
          have HRB := Lib.hid (show v4.heap[w.heap.size + 1]? = some (.cells aucZero 26 (0, 0)) from (KB.out.block (w.heap.size + 1) (by omega)).trans HZ.out)
          have HS2 := Lib.hid (setRow_heap v4 (w.heap.size + 1) _ #[.int .i64 d, .slice B m cb] _ _ HRB.out)
          have KS := Lib.hid (show Below w.heap.size w (v4.setRow (w.heap.size + 1) #[.int .i64 d, .slice B m cb]) from KW.out.trans (rowB v4 (by omega) _))
          have OV2 := Lib.hid (show OwnV (v4.setRow (w.heap.size + 1) #[.int .i64 d, .slice B m cb]) w.heap.size (.slice B m cb) (zs ++ [x]) from (OV.out.far v4 _ (by omega)).more (by omega))
          refine wpAnyH_ready (rs := [9]) (by kernel_rfl) (by simp) (AllReadyH.cons (i := 9) rfl (fun K' hK' => ?_) AllReadyH.nil)
          go_simp
          refine hK'.out _ _ (HSX.out v4 (KB.out.mono (by omega))) (fun hHeld => ?_)
          clear hK'
          refine wpAnyH_ready (rs := [10]) (by kernel_rfl) (by simp) (AllReadyH.cons (i := 10) rfl (fun K' hK' => ?_) AllReadyH.nil)
          refine step_of_wp7 rfl (wp_store_row 26 _ _ rfl (w.heap.size + 1) #[.int .i64 d, .slice B m cb] rfl rfl 26 aucZero HRB.out (auc_info d B m cb) rfl (auc_cells d B m cb) ?_)
          refine hK'.out _ _ (HSX.out _ ((KB.out.mono (by omega)).trans (rowB _ (Nat.le_refl _) _))) (fun hHeld => ?_)
          clear hK'
          refine wpAnyH_done (by kernel_rfl) ?_ _
          go_wp2_with fail
          refine bodyPost_ret (v := .agg #[.int .i64 d, .slice B m cb]) (results_cell_row Tryd.results53 _ _ (w.heap.size + 1) 26 #[.int .i64 d, .slice B m cb] (0, 0) _ rfl HS2.out Tryd.underlying26 rfl (auc_info d B m cb)) rfl ?_
          exact ⟨_, rfl, OV2.out, KS.out⟩

end Go.Proofs.YtahkoinjdcibmaaDoor.Lib1
