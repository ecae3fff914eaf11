/- Chapter 8, the program: a card added to a play. (Written by wip/gen8o.py.) -/
import Derived.Test.YteglffbeldlibaaPy8
import Derived.Test.YteglffbeldlibaaPlayB8
namespace Go.Proofs.Yteglffbeldlibaa.Lib1
open Go.RowKit
set_option maxRecDepth 100000

/-- A list of the call's own, by what it reads. -/
def OwnF (w : World) (base : Nat) (v : Value) (zs : List Int) : Prop := ∃ A c, v = .slice A zs.length c ∧ zs.length ≤ c ∧ Plain A c ∧ Own w base w.heap.size A zs.length zs
theorem OwnF.form {w : World} {base : Nat} {v : Value} {zs : List Int} (h : OwnF w base v zs) : ∃ A c, v = .slice A zs.length c ∧ zs.length ≤ c ∧ Plain A c ∧ Own w base w.heap.size A zs.length zs := h
/-- A play and a code are handed back, the play in memory of the call's own. -/
def RetPJ (w : World) (st ld : Int) (cs : List Int) (k : Int) (e : Ending) (w' : World) : Prop := ∃ v, e = .returned (.tuple #[.agg #[.int .i64 st, .int .i64 ld, v], .int .i64 k]) ∧ OwnF w' w.heap.size v cs ∧ Below w.heap.size w w'
theorem RetPJ.of {w w' : World} {st ld : Int} {cs : List Int} {k : Int} {e : Ending} (h : RetPI w st ld cs k e w') : RetPJ w st ld cs k e w' := by
  obtain ⟨v, rfl, o, b⟩ := h
  obtain ⟨A, c, rfl, h1, h2, h3⟩ := o.form
  exact ⟨_, rfl, ⟨A, c, rfl, h1, h2, h3⟩, b⟩
theorem bldP8 (st ld : Int) (B : Option Addr) (m cb : Nat) : Try.prog.built 29 [(0, .int .i64 st), (1, .int .i64 ld), (2, .slice B m cb)] = some #[.int .i64 st, .int .i64 ld, .slice B m cb] := by kernel_rfl
theorem diff_le8 {zss : List (List Int)} {st ld : Int} {cs : List Int} (h : playB zss st ld cs = true) : cs.length ≤ 52 := (plain_parts (play_parts h).2.1).2.2.2
theorem Concat28 (g : Nat) (A0 A1 : Option Addr) (n0 c0 n1 c1 : Nat) (z0 z1 : List Int) (W : World) (hg : SBox W 27 g #[.slice A0 n0 c0, .slice A1 n1 c1]) (h0 : Rd W 0 W.heap.size A0 n0 z0) (h1 : Rd W 0 W.heap.size A1 n1 z1) (e0 : A0 = none → c0 = 0) (e1 : A1 = none → c1 = 0) (hn : n0 + n1 ≤ 1048570) :
    Calls Try.prog 70 #[.slice (some ⟨g, 0, none⟩) 2 2] W (RetS W (z0 ++ z1)) := by
  have hc := Concat g 2 2 (three A0 A1 A1) (three n0 n1 n1) (three c0 c1 c1) (three z0 z1 z1) W
    (fun j hj => by
      rw [hg.cell j]
      match j, hj with
      | 0, _ => rfl
      | 1, _ => rfl)
    (fun j hj => by
      match j, hj with
      | 0, _ => exact h0
      | 1, _ => exact h1)
    (fun j hj => by
      match j, hj with
      | 0, _ => exact e0
      | 1, _ => exact e1)
    (by omega) (by rw [catTo_two]; simp [h0.1, h1.1]; omega)
  rw [catTo_two] at hc
  exact hc
set_option maxHeartbeats 8000000 in
theorem impl_AddCard (A' : Option Addr) (n' c' : Nat) (zss : List (List Int)) (st ld : Int) (A : Option Addr) (n c : Nat) (cs : List Int) (x : Int) (w : World) (hD : RdR w 0 w.heap.size A' n' zss) (hlz : ∀ j, j < n' → (zss.getD j []).length ≤ 1048576) (h : Rd w 0 w.heap.size A n cs) (hn : n ≤ 1048576) (hcap : n ≤ c) (hnil : A = none → c = 0) :
    Calls Try.prog 20 #[.agg #[.slice A' n' c'], .agg #[.int .i64 st, .int .i64 ld, .slice A n c], .int .i64 x] w (RetPJ w (addSt zss st ld cs x) (addLd zss st ld cs x) (addCs zss st ld cs x) (addK zss st ld cs x)) := by
  have HG := Lib.hid (show addK zss st ld cs x = if !playB zss st ld cs then 1 else if doneB zss cs then 5 else if !hasB (legL zss st ld cs) x then 2 else 0 from rfl)
  have HFE := Lib.hid (fun (V : World) (k : Int) (hk : k ≠ 0) (e : addK zss st ld cs x = k) (b : Below w.heap.size w V) => (show RetPJ w (addSt zss st ld cs x) (addLd zss st ld cs x) (addCs zss st ld cs x) (addK zss st ld cs x) (.returned (.tuple #[.agg #[.int .i64 0, .int .i64 0, .slice none 0 0], .int .i64 k])) V by
    unfold addSt addLd addCs
    rw [e, if_neg hk, if_neg hk, if_neg hk]
    exact ⟨_, rfl, ⟨none, 0, rfl, Nat.le_refl _, .inl ⟨rfl, rfl⟩, Own.none_⟩, b⟩))
  have HFO := Lib.hid (fun (V : World) (v : Value) (e : addK zss st ld cs x = 0) (o : OwnF V w.heap.size v (cs ++ [x])) (b : Below w.heap.size w V) => (show RetPJ w (addSt zss st ld cs x) (addLd zss st ld cs x) (addCs zss st ld cs x) (addK zss st ld cs x) (.returned (.tuple #[.agg #[.int .i64 st, .int .i64 ld, v], .int .i64 0])) V by
    unfold addSt addLd addCs
    rw [e, if_pos rfl, if_pos rfl, if_pos rfl]
    exact ⟨_, rfl, o, b⟩))
  have e1 : (w.alloc (.cells #[.slice A' n' c'] 26)).heap.size = w.heap.size + 1 := by simp
  have e2 : ((w.alloc (.cells #[.slice A' n' c'] 26)).alloc (.cells #[.int .i64 st, .int .i64 ld, .slice A n c] 29)).heap.size = w.heap.size + 2 := by simp
  have c1 := Chg.of_alloc w (.cells #[.slice A' n' c'] 26) 0 0
  have c2 := Chg.of_alloc (w.alloc (.cells #[.slice A' n' c'] 26)) (.cells #[.int .i64 st, .int .i64 ld, .slice A n c] 29) 0 0
  have c3 := Chg.of_alloc ((w.alloc (.cells #[.slice A' n' c'] 26)).alloc (.cells #[.int .i64 st, .int .i64 ld, .slice A n c] 29)) (.cells #[.int .i64 0, .int .i64 0, .slice none 0 0] 29) 0 0
  have x1 := (SBox.new w 26 #[.slice A' n' c']).still (c2.trans c3)
  have x2 := (SBox.new (w.alloc (.cells #[.slice A' n' c'] 26)) 29 #[.int .i64 st, .int .i64 ld, .slice A n c]).still c3
  have x3 := SBox.new ((w.alloc (.cells #[.slice A' n' c'] 26)).alloc (.cells #[.int .i64 st, .int .i64 ld, .slice A n c] 29)) 29 #[.int .i64 0, .int .i64 0, .slice none 0 0]
  rw [e1] at x2
  rw [e2] at x3
  have C0 := Lib.hid ((c1.trans c2).trans c3)
  have X1 := Lib.hid x1
  have X2 := Lib.hid x2
  have X3 := Lib.hid x3
  have D0 := Lib.hid (show RdR (((w.alloc (.cells #[.slice A' n' c'] 26)).alloc (.cells #[.int .i64 st, .int .i64 ld, .slice A n c] 29)).alloc (.cells #[.int .i64 0, .int .i64 0, .slice none 0 0] 29)) 0 _ A' n' zss from (hD.still C0.out).all)
  have H0 := Lib.hid (show Rd (((w.alloc (.cells #[.slice A' n' c'] 26)).alloc (.cells #[.int .i64 st, .int .i64 ld, .slice A n c] 29)).alloc (.cells #[.int .i64 0, .int .i64 0, .slice none 0 0] 29)) 0 _ A n cs from (h.still C0.out).all)
  clear hD h e1 e2 c1 c2 c3 x1 x2 x3
  go_enter Try.func20, Try.ntmps20
  go_wp2_with (first | (refine wpList_load_row rfl 26 _ rfl w.heap.size rfl 26 #[.slice A' n' c'] (0, 0) _ X1.out Try.underlying26 rfl (deal_info7 _) ?_) | (refine wpList_load_row rfl 29 _ rfl (w.heap.size + 1) rfl 29 #[.int .i64 st, .int .i64 ld, .slice A n c] (0, 0) _ X2.out Try.underlying29 rfl (play_info _ _ _ _ _) ?_))
  generalize (((w.alloc (.cells #[.slice A' n' c'] 26)).alloc (.cells #[.int .i64 st, .int .i64 ld, .slice A n c] 29)).alloc (.cells #[.int .i64 0, .int .i64 0, .slice none 0 0] 29)) = W at C0 X1 X2 X3 D0 H0 ⊢
  refine (playingOf8 A' n' c' zss st ld A n c cs W D0.out hlz H0.out hn hcap hnil).mono ?_
  rintro e w1 ⟨v, rfl, b1, hg⟩
  have k1 := Chg.of_below b1 0 0
  have C1 := Lib.hid (C0.out.trans k1)
  have Y2 := Lib.hid (X2.out.still k1)
  have Y3 := Lib.hid (X3.out.still k1)
  have R1 := Lib.hid (show Rd w1 0 w1.heap.size A n cs from (H0.out.still k1).all)
  have HGI := Lib.hid hg
  have ZW := Lib.hid C0.out.size
  have ZB := Lib.hid b1.size
  clear b1 k1 hg C0 X1 X2 X3 D0 H0
  cases hp : playB zss st ld cs
  · have hk := Lib.hid (show addK zss st ld cs x = 1 by rw [HG.out, hp]; rfl)
    have ZS := Lib.hid (setRow_heap w1 (w.heap.size + 2) _ #[.int .i64 0, .int .i64 0, .slice none 0 0] _ _ Y3.out)
    have KS := Lib.hid (show Below w.heap.size w (w1.setRow (w.heap.size + 2) #[.int .i64 0, .int .i64 0, .slice none 0 0]) from C1.out.to_below.trans (rowB w1 (by omega) _))
    clear hp
    go_wp2_with (refine wpList_store_row rfl 29 _ _ rfl (w.heap.size + 2) #[.int .i64 0, .int .i64 0, .slice none 0 0] rfl rfl 29 #[.int .i64 0, .int .i64 0, .slice none 0 0] Y3.out (play_info _ _ _ _ _) rfl (play_cells _ _ _ _ _) ?_)
    refine bodyPost_ret (v := .tuple #[.agg #[.int .i64 0, .int .i64 0, .slice none 0 0], .int .i64 1]) (results_row_tmp8 Try.results20 _ _ (w.heap.size + 2) 29 #[.int .i64 0, .int .i64 0, .slice none 0 0] (0, 0) _ _ rfl rfl ZS.out Try.underlying29 rfl (play_info _ _ _ _ _)) rfl ?_
    exact HFE.out _ 1 (by omega) hk.out KS.out
  obtain ⟨g, rfl, hg⟩ := HGI.out hp
  obtain ⟨hd, hpl, _⟩ := play_parts hp
  obtain ⟨hdf, _, hld, _⟩ := plain_parts hpl
  have HP := Lib.hid hp
  have GG := Lib.hid hg
  have HZ := Lib.hid (fun j (hj : j < cs.length) => diff_card hdf hj)
  have HBW := Lib.hid (show W.heap.size ≤ w1.heap.size from Nat.le_trans (Nat.le_refl _) ZB.out)
  clear hp hg hpl hdf HGI
  have HG := Lib.hid (show addK zss st ld cs x = if doneB zss cs then 5 else if !hasB (legL zss st ld cs) x then 2 else 0 by rw [HG.out, HP.out]; rfl)
  have hfi := fin_iff HP.out
  have hdn : decide ((leftL (zss.getD (turnL st ld cs).toNat []) cs).length = 0) = doneB zss cs := by
    cases hq : doneB zss cs
    · exact decide_eq_false fun e => by rw [hfi.1 e] at hq; cases hq
    · exact decide_eq_true (hfi.2 hq)
  have HDN := Lib.hid hdn
  clear hfi hdn
  go_wp2_with fail
  refine (finished8 g W.heap.size zss st ld cs w1 GG.out hld hd).mono ?_
  rw [HDN.out]
  rintro e w2 ⟨rfl, k2⟩
  have C2 := Lib.hid (C1.out.trans k2)
  have G2 := Lib.hid (GG.out.still k2)
  have X2 := Lib.hid (Y2.out.still k2)
  have X3 := Lib.hid (Y3.out.still k2)
  have R2 := Lib.hid (show Rd w2 0 w2.heap.size A n cs from (R1.out.still k2).all)
  have ZC2 := Lib.hid (Nat.le_trans HBW.out k2.size)
  clear k2 C1 GG Y2 Y3 R1 HDN
  cases hq : doneB zss cs
  case true =>
    have hk := Lib.hid (show addK zss st ld cs x = 5 by rw [HG.out, hq]; rfl)
    have ZS := Lib.hid (setRow_heap w2 (w.heap.size + 2) _ #[.int .i64 0, .int .i64 0, .slice none 0 0] _ _ X3.out)
    have KS := Lib.hid (show Below w.heap.size w (w2.setRow (w.heap.size + 2) #[.int .i64 0, .int .i64 0, .slice none 0 0]) from C2.out.to_below.trans (rowB w2 (by omega) _))
    clear hq
    go_wp2_with (refine wpList_store_row rfl 29 _ _ rfl (w.heap.size + 2) #[.int .i64 0, .int .i64 0, .slice none 0 0] rfl rfl 29 #[.int .i64 0, .int .i64 0, .slice none 0 0] X3.out (play_info _ _ _ _ _) rfl (play_cells _ _ _ _ _) ?_)
    refine bodyPost_ret (v := .tuple #[.agg #[.int .i64 0, .int .i64 0, .slice none 0 0], .int .i64 5]) (results_row_tmp8 Try.results20 _ _ (w.heap.size + 2) 29 #[.int .i64 0, .int .i64 0, .slice none 0 0] (0, 0) _ _ rfl rfl ZS.out Try.underlying29 rfl (play_info _ _ _ _ _)) rfl ?_
    exact HFE.out _ 5 (by omega) hk.out KS.out
  have HG := Lib.hid (show addK zss st ld cs x = if !hasB (legL zss st ld cs) x then 2 else 0 by rw [HG.out, hq]; rfl)
  clear hq
  go_wp2_with fail
  refine (allows8 g W.heap.size zss st ld x cs w2 G2.out ZC2.out hld hd HZ.out).mono ?_
  rintro e w3 ⟨rfl, k3⟩
  have C3 := Lib.hid (C2.out.trans k3)
  have Y2 := Lib.hid (X2.out.still k3)
  have Y3 := Lib.hid (X3.out.still k3)
  have R3 := Lib.hid (show Rd w3 0 w3.heap.size A n cs from (R2.out.still k3).all)
  clear k3 C2 G2 X2 X3 R2
  cases hb : hasB (legL zss st ld cs) x
  · have hk := Lib.hid (show addK zss st ld cs x = 2 by rw [HG.out, hb]; rfl)
    have ZS := Lib.hid (setRow_heap w3 (w.heap.size + 2) _ #[.int .i64 0, .int .i64 0, .slice none 0 0] _ _ Y3.out)
    have KS := Lib.hid (show Below w.heap.size w (w3.setRow (w.heap.size + 2) #[.int .i64 0, .int .i64 0, .slice none 0 0]) from C3.out.to_below.trans (rowB w3 (by omega) _))
    clear hb
    go_wp2_with (refine wpList_store_row rfl 29 _ _ rfl (w.heap.size + 2) #[.int .i64 0, .int .i64 0, .slice none 0 0] rfl rfl 29 #[.int .i64 0, .int .i64 0, .slice none 0 0] Y3.out (play_info _ _ _ _ _) rfl (play_cells _ _ _ _ _) ?_)
    refine bodyPost_ret (v := .tuple #[.agg #[.int .i64 0, .int .i64 0, .slice none 0 0], .int .i64 2]) (results_row_tmp8 Try.results20 _ _ (w.heap.size + 2) 29 #[.int .i64 0, .int .i64 0, .slice none 0 0] (0, 0) _ _ rfl rfl ZS.out Try.underlying29 rfl (play_info _ _ _ _ _)) rfl ?_
    exact HFE.out _ 2 (by omega) hk.out KS.out
  have hk := Lib.hid (show addK zss st ld cs x = 0 by rw [HG.out, hb]; rfl)
  clear hb HG
  have p2 : w3.cell? ⟨w.heap.size + 1, 2, none⟩ = some (.slice A n c) := (Y2.out.cell 2).trans rfl
  have a1 := Chg.of_alloc w3 (.cells #[.int .i64 x] 2) 0 0
  have a2 := Chg.of_alloc (w3.alloc (.cells #[.int .i64 x] 2)) (.cells #[.slice A n c, .slice (some ⟨w3.heap.size, 0, none⟩) 1 1] 27) 0 0
  have e3 : (w3.alloc (.cells #[.int .i64 x] 2)).heap.size = w3.heap.size + 1 := by simp
  have A1 := Lib.hid (a1.trans a2)
  have S1 := SBox.new (w3.alloc (.cells #[.int .i64 x] 2)) 27 #[.slice A n c, .slice (some ⟨w3.heap.size, 0, none⟩) 1 1]
  rw [e3] at S1
  have O1 := (SBox.new w3 2 #[.int .i64 x]).still a2
  have hcc := Lib.hid (Concat28 (w3.heap.size + 1) A (some ⟨w3.heap.size, 0, none⟩) n c 1 1 cs [x] _ S1 (R3.out.still A1.out).all (Rd.one7 O1) hnil (fun e => by cases e) (by have := diff_le8 HP.out; have := R3.out.1; omega))
  clear S1 O1 e3 a1 a2
  go_wp2_with fail
  refine hcc.out.mono ?_
  rintro e w5 ⟨B, cb, rfl, g1, g2, g3, g4⟩
  have C5 := Lib.hid (C3.out.trans (A1.out.trans g4))
  have Z2 := Lib.hid (Y2.out.still (A1.out.trans g4))
  have Z3 := Lib.hid (Y3.out.still (A1.out.trans g4))
  have O5 := Lib.hid (g3.more (lo' := w.heap.size) (hi' := w5.heap.size) (by have := C3.out.size; have := A1.out.size; omega) (Nat.le_refl _))
  have HC1 := Lib.hid g1
  have HC2 := Lib.hid g2
  clear g1 g2 g3 g4 hcc A1 p2
  obtain ⟨m, hm⟩ : ∃ m, m = (cs ++ [x]).length := ⟨_, rfl⟩
  rw [← hm] at O5 HC1 ⊢
  have HM := Lib.hid hm
  clear hm
  have p0 : w5.cell? ⟨w.heap.size + 1, 0, none⟩ = some (.int .i64 st) := (Z2.out.cell 0).trans rfl
  have p1 : w5.cell? ⟨w.heap.size + 1, 1, none⟩ = some (.int .i64 ld) := (Z2.out.cell 1).trans rfl
  have hbp := bldP8 st ld B m cb
  have ZS := Lib.hid (setRow_heap w5 (w.heap.size + 2) _ #[.int .i64 st, .int .i64 ld, .slice B m cb] _ _ Z3.out)
  have KS := Lib.hid (show Below w.heap.size w (w5.setRow (w.heap.size + 2) #[.int .i64 st, .int .i64 ld, .slice B m cb]) from C5.out.to_below.trans (rowB w5 (by omega) _))
  go_wp2_with (refine wpList_store_row rfl 29 _ _ rfl (w.heap.size + 2) #[.int .i64 st, .int .i64 ld, .slice B m cb] rfl rfl 29 #[.int .i64 0, .int .i64 0, .slice none 0 0] Z3.out (play_info _ _ _ _ _) rfl (play_cells _ _ _ _ _) ?_)
  refine bodyPost_ret (v := .tuple #[.agg #[.int .i64 st, .int .i64 ld, .slice B m cb], .int .i64 0]) (results_row_tmp8 Try.results20 _ _ (w.heap.size + 2) 29 #[.int .i64 st, .int .i64 ld, .slice B m cb] (0, 0) _ _ rfl rfl ZS.out Try.underlying29 rfl (play_info _ _ _ _ _)) rfl ?_
  refine HFO.out _ _ hk.out ⟨B, cb, by rw [← HM.out], by rw [← HM.out]; exact HC1.out, HC2.out, ?_⟩ KS.out
  have hsz := C5.out.size
  rw [← HM.out, setRow_size]
  exact ⟨O5.out.1, fun hpos => by
    obtain ⟨b, ds, eb, l1, l2, hbk, hds⟩ := O5.out.2 hpos
    refine ⟨b, ds, eb, l1, l2, ?_, hds⟩
    have hne : b ≠ w.heap.size + 2 := fun e => by subst e; have := Z3.out; unfold SBox at this; rw [this] at hbk; injection hbk with q; injection q with _ q2; exact absurd q2 (by decide)
    exact (setRow_other w5 (w.heap.size + 2) b _ hne).trans hbk⟩
end Go.Proofs.Yteglffbeldlibaa.Lib1
