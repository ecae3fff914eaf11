/- Chapter 8, the model: a play with a card more. (Written by wip/gen8e.py.) -/
import Derived.Test.YteglffbeldlibaaPlayN8
namespace Go.Proofs.Yteglffbeldlibaa.Lib1
open Go.RowKit
set_option maxRecDepth 100000

set_option maxHeartbeats 8000000 in
/-- spec.l08Add -/
theorem l08Add (st ld : Int) (A : Option Addr) (n c : Nat) (cs : List Int) (x : Int) (w : World) (h : Rd w 0 w.heap.size A n cs) (hn : n ≤ 1048576) (hnil : A = none → c = 0) :
    Calls Try.prog 108 #[.agg #[.int .i64 st, .int .i64 ld, .slice A n c], .int .i64 x] w (RetP w st ld (cs ++ [x])) := by
  have hlen := h.1
  have e1 : (w.alloc (.cells #[.int .i64 st, .int .i64 ld, .slice A n c] 29)).heap.size = w.heap.size + 1 := by simp
  have KW0 : Below w.heap.size w ((w.alloc (.cells #[.int .i64 st, .int .i64 ld, .slice A n c] 29)).alloc (.cells #[.int .i64 0, .int .i64 0, .slice none 0 0] 29)) := ((Below.refl w.heap.size w).alloc (Nat.le_refl _) _).alloc (by simp) _
  have x1 := (SBox.new w 29 #[.int .i64 st, .int .i64 ld, .slice A n c]).still (Chg.of_alloc (w.alloc (.cells #[.int .i64 st, .int .i64 ld, .slice A n c] 29)) (.cells #[.int .i64 0, .int .i64 0, .slice none 0 0] 29) 0 0)
  have x2 := SBox.new (w.alloc (.cells #[.int .i64 st, .int .i64 ld, .slice A n c] 29)) 29 #[.int .i64 0, .int .i64 0, .slice none 0 0]
  rw [e1] at x2
  have hsz0 : w.heap.size + 2 ≤ ((w.alloc (.cells #[.int .i64 st, .int .i64 ld, .slice A n c] 29)).alloc (.cells #[.int .i64 0, .int .i64 0, .slice none 0 0] 29)).heap.size := by simp
  have KW := Lib.hid KW0
  have HB := Lib.hid x1
  have HZ := Lib.hid x2
  have HRd := Lib.hid (h.below KW0 (Nat.le_refl _))
  clear e1 KW0 x1 x2 h
  go_enter Try.func108, Try.ntmps108
  go_wp2_with fail
  generalize (w.alloc (.cells #[.int .i64 st, .int .i64 ld, .slice A n c] 29)).alloc (.cells #[.int .i64 0, .int .i64 0, .slice none 0 0] 29) = W0 at KW HB HZ HRd hsz0 ⊢
  have cd : Chg W0 W0.drew 0 0 := Chg.of_drew ⟨1, rfl⟩ 0 0
  have KW := Lib.hid (KW.out.trans (cd.to_below.mono (by omega)))
  have HB := Lib.hid (HB.out.still cd)
  have HZ := Lib.hid (HZ.out.still cd)
  have HRd := Lib.hid (HRd.out.still cd)
  have hsz0 : w.heap.size + 2 ≤ W0.drew.heap.size := by have := cd.size; omega
  refine wp_region_held_drew (S := fun V => SBox V 29 w.heap.size #[.int .i64 st, .int .i64 ld, .slice A n c]) (by kernel_rfl) HB.out (fun hHeld => ?_)
  generalize W0.drew = W at KW HB HZ HRd hsz0 hHeld ⊢
  clear cd
  have HSX := Lib.hid (fun (V : World) (b : Below (w.heap.size + 1) W V) => (show SBox V 29 w.heap.size #[.int .i64 st, .int .i64 ld, .slice A n c] from (b.block w.heap.size (by omega)).trans HB.out))
  have HRX := Lib.hid (fun (V : World) (b : Below (w.heap.size + 2) W V) => (HRd.out.below b (by omega) : Rd V 0 w.heap.size A n cs))
  have KB := Lib.hid (Below.refl (w.heap.size + 2) W)
  refine take_slotC (i := 0) (d := some 5) (v := .pointer (some ⟨w.heap.size, 0, none⟩)) rfl (by kernel_rfl) (by kernel_rfl) (by kernel_rfl) (by kernel_rfl) (fun _ _ _ h => h) (.inl ⟨by kernel_rfl, fun V hV => by have hV0 := SBox.p0 hV; have hV1 := SBox.p1 hV; have hV2 := SBox.p2 hV; go_simp⟩) hHeld ?_
  try simp only [Act.put, List.setIfInBounds_toArray, List.set_cons_zero, List.set_cons_succ]
  refine take_slotC (i := 1) (d := some 6) (v := .int .i64 st) rfl (by kernel_rfl) (by kernel_rfl) (by kernel_rfl) (by kernel_rfl) (fun _ _ _ h => h) (.inl ⟨by kernel_rfl, fun V hV => by have hV0 := SBox.p0 hV; have hV1 := SBox.p1 hV; have hV2 := SBox.p2 hV; go_simp⟩) hHeld ?_
  try simp only [Act.put, List.setIfInBounds_toArray, List.set_cons_zero, List.set_cons_succ]
  refine take_slotC (i := 2) (d := some 7) (v := .pointer (some ⟨w.heap.size, 1, none⟩)) rfl (by kernel_rfl) (by kernel_rfl) (by kernel_rfl) (by kernel_rfl) (fun _ _ _ h => h) (.inl ⟨by kernel_rfl, fun V hV => by have hV0 := SBox.p0 hV; have hV1 := SBox.p1 hV; have hV2 := SBox.p2 hV; go_simp⟩) hHeld ?_
  try simp only [Act.put, List.setIfInBounds_toArray, List.set_cons_zero, List.set_cons_succ]
  refine take_slotC (i := 3) (d := some 8) (v := .int .i64 ld) rfl (by kernel_rfl) (by kernel_rfl) (by kernel_rfl) (by kernel_rfl) (fun _ _ _ h => h) (.inl ⟨by kernel_rfl, fun V hV => by have hV0 := SBox.p0 hV; have hV1 := SBox.p1 hV; have hV2 := SBox.p2 hV; go_simp⟩) hHeld ?_
  try simp only [Act.put, List.setIfInBounds_toArray, List.set_cons_zero, List.set_cons_succ]
  refine take_slotC (i := 5) (d := some 10) (v := .pointer (some ⟨w.heap.size, 2, none⟩)) rfl (by kernel_rfl) (by kernel_rfl) (by kernel_rfl) (by kernel_rfl) (fun _ _ _ h => h) (.inl ⟨by kernel_rfl, fun V hV => by have hV0 := SBox.p0 hV; have hV1 := SBox.p1 hV; have hV2 := SBox.p2 hV; go_simp⟩) hHeld ?_
  try simp only [Act.put, List.setIfInBounds_toArray, List.set_cons_zero, List.set_cons_succ]
  refine take_slotC (i := 6) (d := some 11) (v := .slice A n c) rfl (by kernel_rfl) (by kernel_rfl) (by kernel_rfl) (by kernel_rfl) (fun _ _ _ h => h) (.inl ⟨by kernel_rfl, fun V hV => by have hV0 := SBox.p0 hV; have hV1 := SBox.p1 hV; have hV2 := SBox.p2 hV; go_simp⟩) hHeld ?_
  try simp only [Act.put, List.setIfInBounds_toArray, List.set_cons_zero, List.set_cons_succ]
  refine take_slotC (i := 8) (d := some 13) (v := .int .i64 x) rfl (by kernel_rfl) (by kernel_rfl) (by kernel_rfl) (by kernel_rfl) (fun _ _ _ h => h) (.inl ⟨by kernel_rfl, fun V hV => by have hV0 := SBox.p0 hV; have hV1 := SBox.p1 hV; have hV2 := SBox.p2 hV; go_simp⟩) hHeld ?_
  try simp only [Act.put, List.setIfInBounds_toArray, List.set_cons_zero, List.set_cons_succ]
  refine wpAnyH_ready (rs := [4, 9]) (by kernel_rfl) (by simp) (AllReadyH.cons (i := 4) rfl (fun K' hK' => ?n_4) (AllReadyH.cons (i := 9) rfl (fun K' hK' => ?n_9) AllReadyH.nil))
  case' n_4 =>
    go_simp
    have hsz := KB.out.size
    have OV := Lib.hid (OwnV.made W (base := w.heap.size + 2) (by omega))
    have KW := Lib.hid (KW.out.alloc (show w.heap.size ≤ W.heap.size by omega) (.cells #[] 2))
    have KB := Lib.hid (KB.out.alloc (show w.heap.size + 2 ≤ W.heap.size by omega) (.cells #[] 2))
    refine hK'.out _ _ (HSX.out _ (KB.out.mono (by omega))) (fun hHeld => ?_)
    clear hK' hsz
    obtain ⟨u2, hu2⟩ : ∃ u, u = Value.slice (some ⟨W.heap.size, 0, none⟩) 0 0 := ⟨_, rfl⟩
    rw [← hu2] at OV ⊢
    clear hu2
    generalize W.alloc (.cells #[] 2) = v1 at KW KB OV ⊢
    refine wpAnyH_ready (rs := [7, 9]) (by kernel_rfl) (by simp) (AllReadyH.cons (i := 7) rfl (fun K' hK' => ?n4_7) (AllReadyH.cons (i := 9) rfl (fun K' hK' => ?n4_9) AllReadyH.nil))
    case' n4_7 =>
      have hsz := KB.out.size
      refine step_cat7 rfl (.tmp 9) (.tmp 11) rfl (w.heap.size + 2) u2 [] (by rfl) OV.out 0 w.heap.size A n c cs (by rfl) hnil (HRX.out _ KB.out) (by simp; omega) (by omega) ?_
      intro u5 v2 OV b5 k5
      have OV := Lib.hid (show OwnV v2 (w.heap.size + 2) u5 cs by simpa using OV)
      have KW := Lib.hid (KW.out.trans (b5.mono (by omega)))
      have KB := Lib.hid (KB.out.trans b5)
      clear b5 k5 hsz
      refine hK'.out _ _ (HSX.out _ (KB.out.mono (by omega))) (fun hHeld => ?_)
      clear hK'
      refine wpAnyH_ready (rs := [9]) (by kernel_rfl) (by simp) (AllReadyH.cons (i := 9) rfl (fun K' hK' => ?n4_7_9) AllReadyH.nil)
      case' n4_7_9 =>
        go_simp
        have hsz := KB.out.size
        have ONE := Lib.hid (heap_alloc_new v2 (.cells #[.int .i64 x] 2))
        have NE := Lib.hid (show u5.ownBlock ≠ some v2.heap.size from fun q => by have := OV.out.lt7 q; omega)
        have OV := Lib.hid (OV.out.alloc (.cells #[.int .i64 x] 2))
        have KW := Lib.hid (KW.out.alloc (show w.heap.size ≤ v2.heap.size by omega) (.cells #[.int .i64 x] 2))
        have KB := Lib.hid (KB.out.alloc (show w.heap.size + 2 ≤ v2.heap.size by omega) (.cells #[.int .i64 x] 2))
        refine hK'.out _ _ (HSX.out _ (KB.out.mono (by omega))) (fun hHeld => ?_)
        clear hK' hsz
        obtain ⟨e, he⟩ : ∃ e, e = v2.heap.size := ⟨_, rfl⟩
        rw [← he] at ONE NE ⊢
        clear he
        generalize v2.alloc (.cells #[.int .i64 x] 2) = v3 at KW KB OV ONE ⊢
        have ONE0 := ONE
        refine wpAnyH_ready (rs := [10]) (by kernel_rfl) (by simp) (AllReadyH.cons (i := 10) rfl (fun K' hK' => ?n4_7_9_10) AllReadyH.nil)
        case' n4_7_9_10 =>
          have hsz := KB.out.size
          refine step_cat7 rfl (.tmp 12) (.tmp 14) rfl (w.heap.size + 2) u5 cs (by rfl) OV.out 0 _ (some ⟨e, 0, none⟩) 1 1 [x] (by rfl) (fun h => by cases h) (Rd.one7 ONE.out) (by omega) (by omega) ?_
          intro u8 v4 OV b8 k8
          have OV := Lib.hid OV
          have KW := Lib.hid (KW.out.trans (b8.mono (by omega)))
          have KB := Lib.hid (KB.out.trans b8)
          clear b8 k8
          refine hK'.out _ _ (HSX.out _ (KB.out.mono (by omega))) (fun hHeld => ?_)
          clear hK'
          obtain ⟨B, cb, hu, _⟩ := OV.out.form
          generalize hm : (cs ++ [x]).length = m at hu
          clear hm
          subst hu
          have hsz := KB.out.size
          have HRB := Lib.hid (show v4.heap[w.heap.size + 1]? = some (.cells #[.int .i64 0, .int .i64 0, .slice none 0 0] 29 (0, 0)) from (KB.out.block (w.heap.size + 1) (by omega)).trans HZ.out)
          have HS2 := Lib.hid (setRow_heap v4 (w.heap.size + 1) _ #[.int .i64 st, .int .i64 ld, .slice B m cb] _ _ HRB.out)
          have KS := Lib.hid (show Below w.heap.size w (v4.setRow (w.heap.size + 1) #[.int .i64 st, .int .i64 ld, .slice B m cb]) from KW.out.trans (rowB v4 (by omega) _))
          have OV2 := Lib.hid (show OwnV (v4.setRow (w.heap.size + 1) #[.int .i64 st, .int .i64 ld, .slice B m cb]) w.heap.size (.slice B m cb) (cs ++ [x]) from (OV.out.far v4 _ (by omega)).more (by omega))
          refine wpAnyH_ready (rs := [11]) (by kernel_rfl) (by simp) (AllReadyH.cons (i := 11) rfl (fun K' hK' => ?_) AllReadyH.nil)
          go_simp
          refine hK'.out _ _ (HSX.out v4 (KB.out.mono (by omega))) (fun hHeld => ?_)
          clear hK'
          refine wpAnyH_ready (rs := [12]) (by kernel_rfl) (by simp) (AllReadyH.cons (i := 12) rfl (fun K' hK' => ?_) AllReadyH.nil)
          refine step_of_wp7 rfl (wp_store_row 29 _ _ rfl (w.heap.size + 1) #[.int .i64 st, .int .i64 ld, .slice B m cb] rfl rfl 29 #[.int .i64 0, .int .i64 0, .slice none 0 0] HRB.out (play_info _ _ _ _ _) rfl (play_cells _ _ _ _ _) ?_)
          refine hK'.out _ _ (HSX.out _ ((KB.out.mono (by omega)).trans (rowB _ (Nat.le_refl _) _))) (fun hHeld => ?_)
          clear hK'
          refine wpAnyH_done (by kernel_rfl) ?_ _
          go_wp2_with fail
          refine bodyPost_ret (v := .agg #[.int .i64 st, .int .i64 ld, .slice B m cb]) (results_cell_row Try.results108 _ _ (w.heap.size + 1) 29 #[.int .i64 st, .int .i64 ld, .slice B m cb] (0, 0) _ rfl HS2.out Try.underlying29 rfl (play_info _ _ _ _ _)) rfl ?_
          exact ⟨_, rfl, OV2.out, KS.out⟩
    case' n4_9 =>
      go_simp
      have hsz := KB.out.size
      have ONE := Lib.hid (heap_alloc_new v1 (.cells #[.int .i64 x] 2))
      have NE := Lib.hid (show u2.ownBlock ≠ some v1.heap.size from fun q => by have := OV.out.lt7 q; omega)
      have OV := Lib.hid (OV.out.alloc (.cells #[.int .i64 x] 2))
      have KW := Lib.hid (KW.out.alloc (show w.heap.size ≤ v1.heap.size by omega) (.cells #[.int .i64 x] 2))
      have KB := Lib.hid (KB.out.alloc (show w.heap.size + 2 ≤ v1.heap.size by omega) (.cells #[.int .i64 x] 2))
      refine hK'.out _ _ (HSX.out _ (KB.out.mono (by omega))) (fun hHeld => ?_)
      clear hK' hsz
      obtain ⟨e, he⟩ : ∃ e, e = v1.heap.size := ⟨_, rfl⟩
      rw [← he] at ONE NE ⊢
      clear he
      generalize v1.alloc (.cells #[.int .i64 x] 2) = v2 at KW KB OV ONE ⊢
      have ONE0 := ONE
      refine wpAnyH_ready (rs := [7]) (by kernel_rfl) (by simp) (AllReadyH.cons (i := 7) rfl (fun K' hK' => ?n4_9_7) AllReadyH.nil)
      case' n4_9_7 =>
        have hsz := KB.out.size
        refine step_cat7 rfl (.tmp 9) (.tmp 11) rfl (w.heap.size + 2) u2 [] (by rfl) OV.out 0 w.heap.size A n c cs (by rfl) hnil (HRX.out _ KB.out) (by simp; omega) (by omega) ?_
        intro u5 v3 OV b5 k5
        have ONE := Lib.hid ((k5 e (lt_of_block ONE.out) NE.out).trans ONE.out)
        clear NE
        have OV := Lib.hid (show OwnV v3 (w.heap.size + 2) u5 cs by simpa using OV)
        have KW := Lib.hid (KW.out.trans (b5.mono (by omega)))
        have KB := Lib.hid (KB.out.trans b5)
        clear b5 k5 hsz
        refine hK'.out _ _ (HSX.out _ (KB.out.mono (by omega))) (fun hHeld => ?_)
        clear hK'
        refine wpAnyH_ready (rs := [10]) (by kernel_rfl) (by simp) (AllReadyH.cons (i := 10) rfl (fun K' hK' => ?n4_9_7_10) AllReadyH.nil)
        case' n4_9_7_10 =>
          have hsz := KB.out.size
          refine step_cat7 rfl (.tmp 12) (.tmp 14) rfl (w.heap.size + 2) u5 cs (by rfl) OV.out 0 _ (some ⟨e, 0, none⟩) 1 1 [x] (by rfl) (fun h => by cases h) (Rd.one7 ONE.out) (by omega) (by omega) ?_
          intro u8 v4 OV b8 k8
          have OV := Lib.hid OV
          have KW := Lib.hid (KW.out.trans (b8.mono (by omega)))
          have KB := Lib.hid (KB.out.trans b8)
          clear b8 k8
          refine hK'.out _ _ (HSX.out _ (KB.out.mono (by omega))) (fun hHeld => ?_)
          clear hK'
          obtain ⟨B, cb, hu, _⟩ := OV.out.form
          generalize hm : (cs ++ [x]).length = m at hu
          clear hm
          subst hu
          have hsz := KB.out.size
          have HRB := Lib.hid (show v4.heap[w.heap.size + 1]? = some (.cells #[.int .i64 0, .int .i64 0, .slice none 0 0] 29 (0, 0)) from (KB.out.block (w.heap.size + 1) (by omega)).trans HZ.out)
          have HS2 := Lib.hid (setRow_heap v4 (w.heap.size + 1) _ #[.int .i64 st, .int .i64 ld, .slice B m cb] _ _ HRB.out)
          have KS := Lib.hid (show Below w.heap.size w (v4.setRow (w.heap.size + 1) #[.int .i64 st, .int .i64 ld, .slice B m cb]) from KW.out.trans (rowB v4 (by omega) _))
          have OV2 := Lib.hid (show OwnV (v4.setRow (w.heap.size + 1) #[.int .i64 st, .int .i64 ld, .slice B m cb]) w.heap.size (.slice B m cb) (cs ++ [x]) from (OV.out.far v4 _ (by omega)).more (by omega))
          refine wpAnyH_ready (rs := [11]) (by kernel_rfl) (by simp) (AllReadyH.cons (i := 11) rfl (fun K' hK' => ?_) AllReadyH.nil)
          go_simp
          refine hK'.out _ _ (HSX.out v4 (KB.out.mono (by omega))) (fun hHeld => ?_)
          clear hK'
          refine wpAnyH_ready (rs := [12]) (by kernel_rfl) (by simp) (AllReadyH.cons (i := 12) rfl (fun K' hK' => ?_) AllReadyH.nil)
          refine step_of_wp7 rfl (wp_store_row 29 _ _ rfl (w.heap.size + 1) #[.int .i64 st, .int .i64 ld, .slice B m cb] rfl rfl 29 #[.int .i64 0, .int .i64 0, .slice none 0 0] HRB.out (play_info _ _ _ _ _) rfl (play_cells _ _ _ _ _) ?_)
          refine hK'.out _ _ (HSX.out _ ((KB.out.mono (by omega)).trans (rowB _ (Nat.le_refl _) _))) (fun hHeld => ?_)
          clear hK'
          refine wpAnyH_done (by kernel_rfl) ?_ _
          go_wp2_with fail
          refine bodyPost_ret (v := .agg #[.int .i64 st, .int .i64 ld, .slice B m cb]) (results_cell_row Try.results108 _ _ (w.heap.size + 1) 29 #[.int .i64 st, .int .i64 ld, .slice B m cb] (0, 0) _ rfl HS2.out Try.underlying29 rfl (play_info _ _ _ _ _)) rfl ?_
          exact ⟨_, rfl, OV2.out, KS.out⟩
  case' n_9 =>
    go_simp
    have hsz := KB.out.size
    have ONE := Lib.hid (heap_alloc_new W (.cells #[.int .i64 x] 2))
    have KW := Lib.hid (KW.out.alloc (show w.heap.size ≤ W.heap.size by omega) (.cells #[.int .i64 x] 2))
    have KB := Lib.hid (KB.out.alloc (show w.heap.size + 2 ≤ W.heap.size by omega) (.cells #[.int .i64 x] 2))
    refine hK'.out _ _ (HSX.out _ (KB.out.mono (by omega))) (fun hHeld => ?_)
    clear hK' hsz
    obtain ⟨e, he⟩ : ∃ e, e = W.heap.size := ⟨_, rfl⟩
    rw [← he] at ONE ⊢
    clear he
    generalize W.alloc (.cells #[.int .i64 x] 2) = v1 at KW KB ONE ⊢
    have ONE0 := ONE
    refine wpAnyH_ready (rs := [4]) (by kernel_rfl) (by simp) (AllReadyH.cons (i := 4) rfl (fun K' hK' => ?n9_4) AllReadyH.nil)
    case' n9_4 =>
      go_simp
      have hsz := KB.out.size
      have OV := Lib.hid (OwnV.made v1 (base := w.heap.size + 2) (by omega))
      have ONE := Lib.hid ((Below.heap_alloc v1 (.cells #[] 2) e (lt_of_block ONE.out)).trans ONE.out)
      have NE := Lib.hid (show (Value.slice (some ⟨v1.heap.size, 0, none⟩) 0 0).ownBlock ≠ some e from fun q => by simp [Value.ownBlock] at q; have := lt_of_block ONE0.out; omega)
      have KW := Lib.hid (KW.out.alloc (show w.heap.size ≤ v1.heap.size by omega) (.cells #[] 2))
      have KB := Lib.hid (KB.out.alloc (show w.heap.size + 2 ≤ v1.heap.size by omega) (.cells #[] 2))
      refine hK'.out _ _ (HSX.out _ (KB.out.mono (by omega))) (fun hHeld => ?_)
      clear hK' hsz
      obtain ⟨u2, hu2⟩ : ∃ u, u = Value.slice (some ⟨v1.heap.size, 0, none⟩) 0 0 := ⟨_, rfl⟩
      rw [← hu2] at OV NE ⊢
      clear hu2
      generalize v1.alloc (.cells #[] 2) = v2 at KW KB OV ONE ⊢
      refine wpAnyH_ready (rs := [7]) (by kernel_rfl) (by simp) (AllReadyH.cons (i := 7) rfl (fun K' hK' => ?n9_4_7) AllReadyH.nil)
      case' n9_4_7 =>
        have hsz := KB.out.size
        refine step_cat7 rfl (.tmp 9) (.tmp 11) rfl (w.heap.size + 2) u2 [] (by rfl) OV.out 0 w.heap.size A n c cs (by rfl) hnil (HRX.out _ KB.out) (by simp; omega) (by omega) ?_
        intro u5 v3 OV b5 k5
        have ONE := Lib.hid ((k5 e (lt_of_block ONE.out) NE.out).trans ONE.out)
        clear NE
        have OV := Lib.hid (show OwnV v3 (w.heap.size + 2) u5 cs by simpa using OV)
        have KW := Lib.hid (KW.out.trans (b5.mono (by omega)))
        have KB := Lib.hid (KB.out.trans b5)
        clear b5 k5 hsz
        refine hK'.out _ _ (HSX.out _ (KB.out.mono (by omega))) (fun hHeld => ?_)
        clear hK'
        refine wpAnyH_ready (rs := [10]) (by kernel_rfl) (by simp) (AllReadyH.cons (i := 10) rfl (fun K' hK' => ?n9_4_7_10) AllReadyH.nil)
        case' n9_4_7_10 =>
          have hsz := KB.out.size
          refine step_cat7 rfl (.tmp 12) (.tmp 14) rfl (w.heap.size + 2) u5 cs (by rfl) OV.out 0 _ (some ⟨e, 0, none⟩) 1 1 [x] (by rfl) (fun h => by cases h) (Rd.one7 ONE.out) (by omega) (by omega) ?_
          intro u8 v4 OV b8 k8
          have OV := Lib.hid OV
          have KW := Lib.hid (KW.out.trans (b8.mono (by omega)))
          have KB := Lib.hid (KB.out.trans b8)
          clear b8 k8
          refine hK'.out _ _ (HSX.out _ (KB.out.mono (by omega))) (fun hHeld => ?_)
          clear hK'
          obtain ⟨B, cb, hu, _⟩ := OV.out.form
          generalize hm : (cs ++ [x]).length = m at hu
          clear hm
          subst hu
          have hsz := KB.out.size
          have HRB := Lib.hid (show v4.heap[w.heap.size + 1]? = some (.cells #[.int .i64 0, .int .i64 0, .slice none 0 0] 29 (0, 0)) from (KB.out.block (w.heap.size + 1) (by omega)).trans HZ.out)
          have HS2 := Lib.hid (setRow_heap v4 (w.heap.size + 1) _ #[.int .i64 st, .int .i64 ld, .slice B m cb] _ _ HRB.out)
          have KS := Lib.hid (show Below w.heap.size w (v4.setRow (w.heap.size + 1) #[.int .i64 st, .int .i64 ld, .slice B m cb]) from KW.out.trans (rowB v4 (by omega) _))
          have OV2 := Lib.hid (show OwnV (v4.setRow (w.heap.size + 1) #[.int .i64 st, .int .i64 ld, .slice B m cb]) w.heap.size (.slice B m cb) (cs ++ [x]) from (OV.out.far v4 _ (by omega)).more (by omega))
          refine wpAnyH_ready (rs := [11]) (by kernel_rfl) (by simp) (AllReadyH.cons (i := 11) rfl (fun K' hK' => ?_) AllReadyH.nil)
          go_simp
          refine hK'.out _ _ (HSX.out v4 (KB.out.mono (by omega))) (fun hHeld => ?_)
          clear hK'
          refine wpAnyH_ready (rs := [12]) (by kernel_rfl) (by simp) (AllReadyH.cons (i := 12) rfl (fun K' hK' => ?_) AllReadyH.nil)
          refine step_of_wp7 rfl (wp_store_row 29 _ _ rfl (w.heap.size + 1) #[.int .i64 st, .int .i64 ld, .slice B m cb] rfl rfl 29 #[.int .i64 0, .int .i64 0, .slice none 0 0] HRB.out (play_info _ _ _ _ _) rfl (play_cells _ _ _ _ _) ?_)
          refine hK'.out _ _ (HSX.out _ ((KB.out.mono (by omega)).trans (rowB _ (Nat.le_refl _) _))) (fun hHeld => ?_)
          clear hK'
          refine wpAnyH_done (by kernel_rfl) ?_ _
          go_wp2_with fail
          refine bodyPost_ret (v := .agg #[.int .i64 st, .int .i64 ld, .slice B m cb]) (results_cell_row Try.results108 _ _ (w.heap.size + 1) 29 #[.int .i64 st, .int .i64 ld, .slice B m cb] (0, 0) _ rfl HS2.out Try.underlying29 rfl (play_info _ _ _ _ _)) rfl ?_
          exact ⟨_, rfl, OV2.out, KS.out⟩

end Go.Proofs.Yteglffbeldlibaa.Lib1
