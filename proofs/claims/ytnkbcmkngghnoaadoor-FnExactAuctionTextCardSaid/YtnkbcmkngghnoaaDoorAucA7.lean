/- Chapter 7: the model's l07Add, LegalCalls and AddCall. (Written by wip/gen7a.py.) -/
import Derived.Test.YtnkbcmkngghnoaaDoorAucI7
import Derived.Test.YtnkbcmkngghnoaaDoorStep7
import Derived.Laws.AppendOwnNone
import Derived.OwnWalk
namespace Go.Proofs.YtnkbcmkngghnoaaDoor.Lib1
open Go.RowKit
set_option maxRecDepth 100000

theorem Rp.below7 {w w' : World} {B : Nat} {A : Option Addr} {n : Nat} {zs : List Int} (h : Rp w A n zs) (b : Below B w w') (hB : w.heap.size ≤ B) : Rp w' A n zs := fun hn => by
  obtain ⟨q, off, e, hc⟩ := h hn
  exact ⟨q, off, e, fun j hj => by rw [World.cell?_of_block (b.block q (by have hq : q < w.heap.size := lt_of_cell (hc j hj); omega))]; exact hc j hj⟩
/-- An auction is handed back in memory of the call's own. -/
def RetA (w : World) (d : Int) (zs : List Int) (e : Ending) (w' : World) : Prop := ∃ v, e = .returned (.agg #[.int .i64 d, v]) ∧ OwnV w' w.heap.size v zs ∧ Below w.heap.size w w'
def aucZero : Array Value := #[.int .i64 0, .slice none 0 0]
theorem auc_cells (d : Int) (A : Option Addr) (n c : Nat) : (#[.int .i64 d, .slice A n c] : Array Value).all (·.oneCell') = true := by kernel_rfl

set_option maxHeartbeats 8000000 in
/-- spec.l07Add -/
theorem l07Add (d : Int) (A : Option Addr) (n c : Nat) (zs : List Int) (x : Int) (w : World) (h : Rd w 0 w.heap.size A n zs) (hn : n ≤ 1048576) (hnil : A = none → c = 0) :
    Calls Tryd.prog 53 #[.agg #[.int .i64 d, .slice A n c], .int .i64 x] w (RetA w d (zs ++ [x])) := by
  have hlen := h.1
  go_enter Tryd.func53, Tryd.ntmps53
  go_wp2_with fail
  have KW := Lib.hid ((((Below.refl w.heap.size w).alloc (Nat.le_refl _) (.cells #[.int .i64 d, .slice A n c] 26)).alloc (by simp) (.cells aucZero 26)).drew)
  have HB := Lib.hid ((ABox.new w d A n c).still (Chg.of_alloc (w.alloc (.cells #[.int .i64 d, .slice A n c] 26)) (.cells aucZero 26) 0 0))
  have HZ := Lib.hid (heap_alloc_new (w.alloc (.cells #[.int .i64 d, .slice A n c] 26)) (.cells aucZero 26))
  have e1 : (w.alloc (.cells #[.int .i64 d, .slice A n c] 26)).heap.size = w.heap.size + 1 := by simp
  rw [e1] at HZ
  have hsz0 : w.heap.size + 2 ≤ ((w.alloc (.cells #[.int .i64 d, .slice A n c] 26)).alloc (.cells aucZero 26)).drew.heap.size := by simp
  have HRd := Lib.hid (h.below (KW.out) (Nat.le_refl _))
  change Hid (Below w.heap.size w ((w.alloc (.cells #[.int .i64 d, .slice A n c] 26)).alloc (.cells #[.int .i64 0, .slice none 0 0] 26)).drew) at KW
  refine wp_region_held_drew (S := fun V => V.cell? ⟨w.heap.size, 0, none⟩ = some (.int .i64 d) ∧ V.cell? ⟨w.heap.size, 1, none⟩ = some (.slice A n c)) (by kernel_rfl) ⟨HB.out.c0, HB.out.c1⟩ (fun hHeld => ?_)
  have HZ : Hid (((w.alloc (.cells #[.int .i64 d, .slice A n c] 26)).alloc (.cells #[.int .i64 0, .slice none 0 0] 26)).drew.heap[w.heap.size + 1]? = some (.cells aucZero 26 (0, 0))) := HZ.out
  have HB : Hid (ABox ((w.alloc (.cells #[.int .i64 d, .slice A n c] 26)).alloc (.cells #[.int .i64 0, .slice none 0 0] 26)).drew w.heap.size d A n c) := HB.out
  have HRd : Hid (Rd ((w.alloc (.cells #[.int .i64 d, .slice A n c] 26)).alloc (.cells #[.int .i64 0, .slice none 0 0] 26)).drew 0 w.heap.size A n zs) := HRd.out
  have hsz0 : w.heap.size + 2 ≤ ((w.alloc (.cells #[.int .i64 d, .slice A n c] 26)).alloc (.cells #[.int .i64 0, .slice none 0 0] 26)).drew.heap.size := hsz0
  generalize ((w.alloc (.cells #[.int .i64 d, .slice A n c] 26)).alloc (.cells #[.int .i64 0, .slice none 0 0] 26)).drew = v0 at KW HB HZ HRd hsz0 hHeld ⊢
  clear e1 h
  have HSX := Lib.hid (fun (V : World) (b : Below (w.heap.size + 1) v0 V) => (show V.cell? ⟨w.heap.size, 0, none⟩ = some (.int .i64 d) ∧ V.cell? ⟨w.heap.size, 1, none⟩ = some (.slice A n c) from ⟨by rw [World.cell?_of_block (b.block w.heap.size (by omega))]; exact HB.out.c0, by rw [World.cell?_of_block (b.block w.heap.size (by omega))]; exact HB.out.c1⟩))
  have HRX := Lib.hid (fun (V : World) (b : Below (w.heap.size + 2) v0 V) => (HRd.out.below b (by omega) : Rd V 0 w.heap.size A n zs))
  have KB := Lib.hid (Below.refl (w.heap.size + 2) v0)
  refine take_slotC (i := 0) (d := some 5) (v := .pointer (some ⟨w.heap.size, 0, none⟩)) rfl (by kernel_rfl) (by kernel_rfl) (by kernel_rfl) (by kernel_rfl) (fun _ _ _ h => h) (.inl ⟨by kernel_rfl, fun V hV => by obtain ⟨hV1, hV2⟩ := hV; go_simp⟩) hHeld ?_
  try simp only [Act.put, List.setIfInBounds_toArray, List.set_cons_zero, List.set_cons_succ]
  refine take_slotC (i := 1) (d := some 6) (v := .int .i64 d) rfl (by kernel_rfl) (by kernel_rfl) (by kernel_rfl) (by kernel_rfl) (fun _ _ _ h => h) (.inl ⟨by kernel_rfl, fun V hV => by obtain ⟨hV1, hV2⟩ := hV; go_simp⟩) hHeld ?_
  try simp only [Act.put, List.setIfInBounds_toArray, List.set_cons_zero, List.set_cons_succ]
  refine take_slotC (i := 3) (d := some 8) (v := .pointer (some ⟨w.heap.size, 1, none⟩)) rfl (by kernel_rfl) (by kernel_rfl) (by kernel_rfl) (by kernel_rfl) (fun _ _ _ h => h) (.inl ⟨by kernel_rfl, fun V hV => by obtain ⟨hV1, hV2⟩ := hV; go_simp⟩) hHeld ?_
  try simp only [Act.put, List.setIfInBounds_toArray, List.set_cons_zero, List.set_cons_succ]
  refine take_slotC (i := 4) (d := some 9) (v := .slice A n c) rfl (by kernel_rfl) (by kernel_rfl) (by kernel_rfl) (by kernel_rfl) (fun _ _ _ h => h) (.inl ⟨by kernel_rfl, fun V hV => by obtain ⟨hV1, hV2⟩ := hV; go_simp⟩) hHeld ?_
  try simp only [Act.put, List.setIfInBounds_toArray, List.set_cons_zero, List.set_cons_succ]
  refine take_slotC (i := 6) (d := some 11) (v := .int .i64 x) rfl (by kernel_rfl) (by kernel_rfl) (by kernel_rfl) (by kernel_rfl) (fun _ _ _ h => h) (.inl ⟨by kernel_rfl, fun V hV => by obtain ⟨hV1, hV2⟩ := hV; go_simp⟩) hHeld ?_
  try simp only [Act.put, List.setIfInBounds_toArray, List.set_cons_zero, List.set_cons_succ]
  refine wpAnyH_ready (rs := [2, 7]) (by kernel_rfl) (by simp) (AllReadyH.cons (i := 2) rfl (fun K' hK' => ?n_2) (AllReadyH.cons (i := 7) rfl (fun K' hK' => ?n_7) AllReadyH.nil))
  case' n_2 =>
    go_simp
    have hsz := KB.out.size
    have OV := Lib.hid (OwnV.made v0 (base := w.heap.size + 2) (by omega))
    have KW := Lib.hid (KW.out.alloc (show w.heap.size ≤ v0.heap.size by omega) (.cells #[] 2))
    have KB := Lib.hid (KB.out.alloc (show w.heap.size + 2 ≤ v0.heap.size by omega) (.cells #[] 2))
    refine hK'.out _ _ (HSX.out _ (KB.out.mono (by omega))) (fun hHeld => ?_)
    clear hK' hsz
    obtain ⟨u2, hu2⟩ : ∃ u, u = Value.slice (some ⟨v0.heap.size, 0, none⟩) 0 0 := ⟨_, rfl⟩
    rw [← hu2] at OV ⊢
    clear hu2
    generalize v0.alloc (.cells #[] 2) = v1 at KW KB OV ⊢
    refine wpAnyH_ready (rs := [5, 7]) (by kernel_rfl) (by simp) (AllReadyH.cons (i := 5) rfl (fun K' hK' => ?n2_5) (AllReadyH.cons (i := 7) rfl (fun K' hK' => ?n2_7) AllReadyH.nil))
    case' n2_5 =>
      have hsz := KB.out.size
      refine step_cat7 rfl (.tmp 7) (.tmp 9) rfl (w.heap.size + 2) u2 [] (by rfl) OV.out 0 w.heap.size A n c zs (by rfl) hnil (HRX.out _ KB.out) (by simp; omega) (by omega) ?_
      intro u5 v2 OV b5 k5
      have OV := Lib.hid (show OwnV v2 (w.heap.size + 2) u5 zs by simpa using OV)
      have KW := Lib.hid (KW.out.trans (b5.mono (by omega)))
      have KB := Lib.hid (KB.out.trans b5)
      clear b5 k5 hsz
      refine hK'.out _ _ (HSX.out _ (KB.out.mono (by omega))) (fun hHeld => ?_)
      clear hK'
      refine wpAnyH_ready (rs := [7]) (by kernel_rfl) (by simp) (AllReadyH.cons (i := 7) rfl (fun K' hK' => ?n25_7) AllReadyH.nil)
      case' n25_7 =>
        go_simp
        have hsz := KB.out.size
        have ONE := Lib.hid (heap_alloc_new v2 (.cells #[.int .i64 x] 2))
        have NE := Lib.hid (show u5.ownBlock ≠ some v2.heap.size from fun q => by have := OV.out.lt7 q; omega)
        have OV := Lib.hid (OV.out.alloc (.cells #[.int .i64 x] 2))
        have KW := Lib.hid (KW.out.alloc (show w.heap.size ≤ v2.heap.size by omega) (.cells #[.int .i64 x] 2))
        have KB := Lib.hid (KB.out.alloc (show w.heap.size + 2 ≤ v2.heap.size by omega) (.cells #[.int .i64 x] 2))
        refine hK'.out _ _ (HSX.out _ (KB.out.mono (by omega))) (fun hHeld => ?_)
        clear hK' hsz
        obtain ⟨e, he⟩ : ∃ e, e = v2.heap.size := ⟨_, rfl⟩
        rw [← he] at ONE NE ⊢
        clear he
        generalize v2.alloc (.cells #[.int .i64 x] 2) = v3 at KW KB OV ONE ⊢
        have ONE0 := ONE
        refine wpAnyH_ready (rs := [8]) (by kernel_rfl) (by simp) (AllReadyH.cons (i := 8) rfl (fun K' hK' => ?n257_8) AllReadyH.nil)
        case' n257_8 =>
          have hsz := KB.out.size
          refine step_cat7 rfl (.tmp 10) (.tmp 12) rfl (w.heap.size + 2) u5 zs (by rfl) OV.out 0 _ (some ⟨e, 0, none⟩) 1 1 [x] (by rfl) (fun h => by cases h) (Rd.one7 ONE.out) (by omega) (by omega) ?_
          intro u8 v4 OV b8 k8
          have OV := Lib.hid OV
          have KW := Lib.hid (KW.out.trans (b8.mono (by omega)))
          have KB := Lib.hid (KB.out.trans b8)
          clear b8 k8
          refine hK'.out _ _ (HSX.out _ (KB.out.mono (by omega))) (fun hHeld => ?_)
          clear hK'
          obtain ⟨B, cb, hu, _⟩ := OV.out.form
          generalize hm : (zs ++ [x]).length = m at hu
          clear hm
          subst hu
          have hsz := KB.out.size
          have HRB := Lib.hid (show v4.heap[w.heap.size + 1]? = some (.cells aucZero 26 (0, 0)) from (KB.out.block (w.heap.size + 1) (by omega)).trans HZ.out)
          have HS2 := Lib.hid (setRow_heap v4 (w.heap.size + 1) _ #[.int .i64 d, .slice B m cb] _ _ HRB.out)
          have KS := Lib.hid (show Below w.heap.size w (v4.setRow (w.heap.size + 1) #[.int .i64 d, .slice B m cb]) from KW.out.trans (rowB v4 (by omega) _))
          have OV2 := Lib.hid (show OwnV (v4.setRow (w.heap.size + 1) #[.int .i64 d, .slice B m cb]) w.heap.size (.slice B m cb) (zs ++ [x]) from (OV.out.far v4 _ (by omega)).more (by omega))
          refine wpAnyH_ready (rs := [9]) (by kernel_rfl) (by simp) (AllReadyH.cons (i := 9) rfl (fun K' hK' => ?_) AllReadyH.nil)
          go_simp
          refine hK'.out _ _ (HSX.out v4 (KB.out.mono (by omega))) (fun hHeld => ?_)
          clear hK'
          refine wpAnyH_ready (rs := [10]) (by kernel_rfl) (by simp) (AllReadyH.cons (i := 10) rfl (fun K' hK' => ?_) AllReadyH.nil)
          refine step_of_wp7 rfl (wp_store_row 26 _ _ rfl (w.heap.size + 1) #[.int .i64 d, .slice B m cb] rfl rfl 26 aucZero HRB.out (auc_info d B m cb) rfl (auc_cells d B m cb) ?_)
          refine hK'.out _ _ (HSX.out _ ((KB.out.mono (by omega)).trans (rowB _ (Nat.le_refl _) _))) (fun hHeld => ?_)
          clear hK'
          refine wpAnyH_done (by kernel_rfl) ?_ _
          go_wp2_with fail
          refine bodyPost_ret (v := .agg #[.int .i64 d, .slice B m cb]) (results_cell_row Tryd.results53 _ _ (w.heap.size + 1) 26 #[.int .i64 d, .slice B m cb] (0, 0) _ rfl HS2.out Tryd.underlying26 rfl (auc_info d B m cb)) rfl ?_
          exact ⟨_, rfl, OV2.out, KS.out⟩
    case' n2_7 =>
      go_simp
      have hsz := KB.out.size
      have ONE := Lib.hid (heap_alloc_new v1 (.cells #[.int .i64 x] 2))
      have NE := Lib.hid (show u2.ownBlock ≠ some v1.heap.size from fun q => by have := OV.out.lt7 q; omega)
      have OV := Lib.hid (OV.out.alloc (.cells #[.int .i64 x] 2))
      have KW := Lib.hid (KW.out.alloc (show w.heap.size ≤ v1.heap.size by omega) (.cells #[.int .i64 x] 2))
      have KB := Lib.hid (KB.out.alloc (show w.heap.size + 2 ≤ v1.heap.size by omega) (.cells #[.int .i64 x] 2))
      refine hK'.out _ _ (HSX.out _ (KB.out.mono (by omega))) (fun hHeld => ?_)
      clear hK' hsz
      obtain ⟨e, he⟩ : ∃ e, e = v1.heap.size := ⟨_, rfl⟩
      rw [← he] at ONE NE ⊢
      clear he
      generalize v1.alloc (.cells #[.int .i64 x] 2) = v2 at KW KB OV ONE ⊢
      have ONE0 := ONE
      refine wpAnyH_ready (rs := [5]) (by kernel_rfl) (by simp) (AllReadyH.cons (i := 5) rfl (fun K' hK' => ?n27_5) AllReadyH.nil)
      case' n27_5 =>
        have hsz := KB.out.size
        refine step_cat7 rfl (.tmp 7) (.tmp 9) rfl (w.heap.size + 2) u2 [] (by rfl) OV.out 0 w.heap.size A n c zs (by rfl) hnil (HRX.out _ KB.out) (by simp; omega) (by omega) ?_
        intro u5 v3 OV b5 k5
        have ONE := Lib.hid ((k5 e (lt_of_block ONE.out) NE.out).trans ONE.out)
        clear NE
        have OV := Lib.hid (show OwnV v3 (w.heap.size + 2) u5 zs by simpa using OV)
        have KW := Lib.hid (KW.out.trans (b5.mono (by omega)))
        have KB := Lib.hid (KB.out.trans b5)
        clear b5 k5 hsz
        refine hK'.out _ _ (HSX.out _ (KB.out.mono (by omega))) (fun hHeld => ?_)
        clear hK'
        refine wpAnyH_ready (rs := [8]) (by kernel_rfl) (by simp) (AllReadyH.cons (i := 8) rfl (fun K' hK' => ?n275_8) AllReadyH.nil)
        case' n275_8 =>
          have hsz := KB.out.size
          refine step_cat7 rfl (.tmp 10) (.tmp 12) rfl (w.heap.size + 2) u5 zs (by rfl) OV.out 0 _ (some ⟨e, 0, none⟩) 1 1 [x] (by rfl) (fun h => by cases h) (Rd.one7 ONE.out) (by omega) (by omega) ?_
          intro u8 v4 OV b8 k8
          have OV := Lib.hid OV
          have KW := Lib.hid (KW.out.trans (b8.mono (by omega)))
          have KB := Lib.hid (KB.out.trans b8)
          clear b8 k8
          refine hK'.out _ _ (HSX.out _ (KB.out.mono (by omega))) (fun hHeld => ?_)
          clear hK'
          obtain ⟨B, cb, hu, _⟩ := OV.out.form
          generalize hm : (zs ++ [x]).length = m at hu
          clear hm
          subst hu
          have hsz := KB.out.size
          have HRB := Lib.hid (show v4.heap[w.heap.size + 1]? = some (.cells aucZero 26 (0, 0)) from (KB.out.block (w.heap.size + 1) (by omega)).trans HZ.out)
          have HS2 := Lib.hid (setRow_heap v4 (w.heap.size + 1) _ #[.int .i64 d, .slice B m cb] _ _ HRB.out)
          have KS := Lib.hid (show Below w.heap.size w (v4.setRow (w.heap.size + 1) #[.int .i64 d, .slice B m cb]) from KW.out.trans (rowB v4 (by omega) _))
          have OV2 := Lib.hid (show OwnV (v4.setRow (w.heap.size + 1) #[.int .i64 d, .slice B m cb]) w.heap.size (.slice B m cb) (zs ++ [x]) from (OV.out.far v4 _ (by omega)).more (by omega))
          refine wpAnyH_ready (rs := [9]) (by kernel_rfl) (by simp) (AllReadyH.cons (i := 9) rfl (fun K' hK' => ?_) AllReadyH.nil)
          go_simp
          refine hK'.out _ _ (HSX.out v4 (KB.out.mono (by omega))) (fun hHeld => ?_)
          clear hK'
          refine wpAnyH_ready (rs := [10]) (by kernel_rfl) (by simp) (AllReadyH.cons (i := 10) rfl (fun K' hK' => ?_) AllReadyH.nil)
          refine step_of_wp7 rfl (wp_store_row 26 _ _ rfl (w.heap.size + 1) #[.int .i64 d, .slice B m cb] rfl rfl 26 aucZero HRB.out (auc_info d B m cb) rfl (auc_cells d B m cb) ?_)
          refine hK'.out _ _ (HSX.out _ ((KB.out.mono (by omega)).trans (rowB _ (Nat.le_refl _) _))) (fun hHeld => ?_)
          clear hK'
          refine wpAnyH_done (by kernel_rfl) ?_ _
          go_wp2_with fail
          refine bodyPost_ret (v := .agg #[.int .i64 d, .slice B m cb]) (results_cell_row Tryd.results53 _ _ (w.heap.size + 1) 26 #[.int .i64 d, .slice B m cb] (0, 0) _ rfl HS2.out Tryd.underlying26 rfl (auc_info d B m cb)) rfl ?_
          exact ⟨_, rfl, OV2.out, KS.out⟩
  case' n_7 =>
    go_simp
    have hsz := KB.out.size
    have ONE := Lib.hid (heap_alloc_new v0 (.cells #[.int .i64 x] 2))
    have KW := Lib.hid (KW.out.alloc (show w.heap.size ≤ v0.heap.size by omega) (.cells #[.int .i64 x] 2))
    have KB := Lib.hid (KB.out.alloc (show w.heap.size + 2 ≤ v0.heap.size by omega) (.cells #[.int .i64 x] 2))
    refine hK'.out _ _ (HSX.out _ (KB.out.mono (by omega))) (fun hHeld => ?_)
    clear hK' hsz
    obtain ⟨e, he⟩ : ∃ e, e = v0.heap.size := ⟨_, rfl⟩
    rw [← he] at ONE ⊢
    clear he
    generalize v0.alloc (.cells #[.int .i64 x] 2) = v1 at KW KB ONE ⊢
    have ONE0 := ONE
    refine wpAnyH_ready (rs := [2]) (by kernel_rfl) (by simp) (AllReadyH.cons (i := 2) rfl (fun K' hK' => ?n7_2) AllReadyH.nil)
    case' n7_2 =>
      go_simp
      have hsz := KB.out.size
      have OV := Lib.hid (OwnV.made v1 (base := w.heap.size + 2) (by omega))
      have ONE := Lib.hid ((Below.heap_alloc v1 (.cells #[] 2) e (lt_of_block ONE.out)).trans ONE.out)
      have NE := Lib.hid (show (Value.slice (some ⟨v1.heap.size, 0, none⟩) 0 0).ownBlock ≠ some e from fun q => by simp [Value.ownBlock] at q; have := lt_of_block ONE0.out; omega)
      have KW := Lib.hid (KW.out.alloc (show w.heap.size ≤ v1.heap.size by omega) (.cells #[] 2))
      have KB := Lib.hid (KB.out.alloc (show w.heap.size + 2 ≤ v1.heap.size by omega) (.cells #[] 2))
      refine hK'.out _ _ (HSX.out _ (KB.out.mono (by omega))) (fun hHeld => ?_)
      clear hK' hsz
      obtain ⟨u2, hu2⟩ : ∃ u, u = Value.slice (some ⟨v1.heap.size, 0, none⟩) 0 0 := ⟨_, rfl⟩
      rw [← hu2] at OV NE ⊢
      clear hu2
      generalize v1.alloc (.cells #[] 2) = v2 at KW KB OV ONE ⊢
      refine wpAnyH_ready (rs := [5]) (by kernel_rfl) (by simp) (AllReadyH.cons (i := 5) rfl (fun K' hK' => ?n72_5) AllReadyH.nil)
      case' n72_5 =>
        have hsz := KB.out.size
        refine step_cat7 rfl (.tmp 7) (.tmp 9) rfl (w.heap.size + 2) u2 [] (by rfl) OV.out 0 w.heap.size A n c zs (by rfl) hnil (HRX.out _ KB.out) (by simp; omega) (by omega) ?_
        intro u5 v3 OV b5 k5
        have ONE := Lib.hid ((k5 e (lt_of_block ONE.out) NE.out).trans ONE.out)
        clear NE
        have OV := Lib.hid (show OwnV v3 (w.heap.size + 2) u5 zs by simpa using OV)
        have KW := Lib.hid (KW.out.trans (b5.mono (by omega)))
        have KB := Lib.hid (KB.out.trans b5)
        clear b5 k5 hsz
        refine hK'.out _ _ (HSX.out _ (KB.out.mono (by omega))) (fun hHeld => ?_)
        clear hK'
        refine wpAnyH_ready (rs := [8]) (by kernel_rfl) (by simp) (AllReadyH.cons (i := 8) rfl (fun K' hK' => ?n725_8) AllReadyH.nil)
        case' n725_8 =>
          have hsz := KB.out.size
          refine step_cat7 rfl (.tmp 10) (.tmp 12) rfl (w.heap.size + 2) u5 zs (by rfl) OV.out 0 _ (some ⟨e, 0, none⟩) 1 1 [x] (by rfl) (fun h => by cases h) (Rd.one7 ONE.out) (by omega) (by omega) ?_
          intro u8 v4 OV b8 k8
          have OV := Lib.hid OV
          have KW := Lib.hid (KW.out.trans (b8.mono (by omega)))
          have KB := Lib.hid (KB.out.trans b8)
          clear b8 k8
          refine hK'.out _ _ (HSX.out _ (KB.out.mono (by omega))) (fun hHeld => ?_)
          clear hK'
          obtain ⟨B, cb, hu, _⟩ := OV.out.form
          generalize hm : (zs ++ [x]).length = m at hu
          clear hm
          subst hu
          have hsz := KB.out.size
          have HRB := Lib.hid (show v4.heap[w.heap.size + 1]? = some (.cells aucZero 26 (0, 0)) from (KB.out.block (w.heap.size + 1) (by omega)).trans HZ.out)
          have HS2 := Lib.hid (setRow_heap v4 (w.heap.size + 1) _ #[.int .i64 d, .slice B m cb] _ _ HRB.out)
          have KS := Lib.hid (show Below w.heap.size w (v4.setRow (w.heap.size + 1) #[.int .i64 d, .slice B m cb]) from KW.out.trans (rowB v4 (by omega) _))
          have OV2 := Lib.hid (show OwnV (v4.setRow (w.heap.size + 1) #[.int .i64 d, .slice B m cb]) w.heap.size (.slice B m cb) (zs ++ [x]) from (OV.out.far v4 _ (by omega)).more (by omega))
          refine wpAnyH_ready (rs := [9]) (by kernel_rfl) (by simp) (AllReadyH.cons (i := 9) rfl (fun K' hK' => ?_) AllReadyH.nil)
          go_simp
          refine hK'.out _ _ (HSX.out v4 (KB.out.mono (by omega))) (fun hHeld => ?_)
          clear hK'
          refine wpAnyH_ready (rs := [10]) (by kernel_rfl) (by simp) (AllReadyH.cons (i := 10) rfl (fun K' hK' => ?_) AllReadyH.nil)
          refine step_of_wp7 rfl (wp_store_row 26 _ _ rfl (w.heap.size + 1) #[.int .i64 d, .slice B m cb] rfl rfl 26 aucZero HRB.out (auc_info d B m cb) rfl (auc_cells d B m cb) ?_)
          refine hK'.out _ _ (HSX.out _ ((KB.out.mono (by omega)).trans (rowB _ (Nat.le_refl _) _))) (fun hHeld => ?_)
          clear hK'
          refine wpAnyH_done (by kernel_rfl) ?_ _
          go_wp2_with fail
          refine bodyPost_ret (v := .agg #[.int .i64 d, .slice B m cb]) (results_cell_row Tryd.results53 _ _ (w.heap.size + 1) 26 #[.int .i64 d, .slice B m cb] (0, 0) _ rfl HS2.out Tryd.underlying26 rfl (auc_info d B m cb)) rfl ?_
          exact ⟨_, rfl, OV2.out, KS.out⟩

end Go.Proofs.YtnkbcmkngghnoaaDoor.Lib1
