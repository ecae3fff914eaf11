/- Chapter 8, the model: a card is added; the tricks of both sides. (Written by wip/gen8f.py.) -/
import Derived.Test.YteglffbeldlibaaPlayQ8
import Derived.Test.YteglffbeldlibaaPlayA8
namespace Go.Proofs.Yteglffbeldlibaa.Lib1
open Go.RowKit
set_option maxRecDepth 100000

theorem results_row_tmp8 {P : Program} {fn : Func} {p u : Tmp} {ty : TypeId} (h : fn.results = #[.cell p ty, .tmp u]) (tmps : Array Value) (w : World) (g : Nat) (t : TypeId) (cs : Array Value) (fr : Nat × Nat) (d : TypeDesc) (v : Value)
    (hp : tmps.getD p undef = .pointer (some ⟨g, 0, none⟩)) (hv : tmps.getD u undef = v) (hg : w.heap[g]? = some (.cells cs t fr))
    (hu : P.underlying ty = some d) (hd : (match d with | .struct _ | .array _ _ => true | _ => false) = true) (hi : (P.info? ty).map (·.size) = some cs.size) :
    (results fn tmps).run P w = .ok (.tuple #[.agg cs, v]) w := by
  have hp' : tmps[p]?.getD undef = .pointer (some ⟨g, 0, none⟩) := by simpa using hp
  have hv' : tmps[u]?.getD undef = v := by simpa using hv
  simp [results, h, hp', hv', asAddr, run_loadVar_row w g t ty cs fr d hg hu hd hi]
def addSt (zss : List (List Int)) (st ld : Int) (cs : List Int) (x : Int) : Int := if addK zss st ld cs x = 0 then st else 0
def addLd (zss : List (List Int)) (st ld : Int) (cs : List Int) (x : Int) : Int := if addK zss st ld cs x = 0 then ld else 0
def addCs (zss : List (List Int)) (st ld : Int) (cs : List Int) (x : Int) : List Int := if addK zss st ld cs x = 0 then cs ++ [x] else []
/-- A play and a code are handed back, the play in memory of the call's own. -/
def RetPI (w : World) (st ld : Int) (cs : List Int) (k : Int) (e : Ending) (w' : World) : Prop := ∃ v, e = .returned (.tuple #[.agg #[.int .i64 st, .int .i64 ld, v], .int .i64 k]) ∧ OwnV w' w.heap.size v cs ∧ Below w.heap.size w w'
set_option maxHeartbeats 8000000 in
/-- spec.AddCard -/
theorem spec_AddCard (A' : Option Addr) (n' c' : Nat) (zss : List (List Int)) (st ld : Int) (A : Option Addr) (n c : Nat) (cs : List Int) (x : Int) (w : World) (hD : RdR w 0 w.heap.size A' n' zss) (hlz : ∀ j, j < n' → (zss.getD j []).length ≤ 1048576) (h : Rd w 0 w.heap.size A n cs) (hn : n ≤ 1048576) (hcap : n ≤ c) (hnil : A = none → c = 0) :
    Calls Try.prog 53 #[.agg #[.slice A' n' c'], .agg #[.int .i64 st, .int .i64 ld, .slice A n c], .int .i64 x] w (RetPI w (addSt zss st ld cs x) (addLd zss st ld cs x) (addCs zss st ld cs x) (addK zss st ld cs x)) := by
  have hl := Lib.hid h.1
  have HN' := Lib.hid hD.1
  have HG := Lib.hid (show addK zss st ld cs x = if !playB zss st ld cs then 1 else if doneB zss cs then 5 else if !hasB (legL zss st ld cs) x then 2 else 0 from rfl)
  have HFE := Lib.hid (fun (V : World) (k : Int) (hk : k ≠ 0) (e : addK zss st ld cs x = k) (b : Below w.heap.size w V) => (show RetPI w (addSt zss st ld cs x) (addLd zss st ld cs x) (addCs zss st ld cs x) (addK zss st ld cs x) (.returned (.tuple #[.agg #[.int .i64 0, .int .i64 0, .slice none 0 0], .int .i64 k])) V by
    unfold addSt addLd addCs
    rw [e, if_neg hk, if_neg hk, if_neg hk]
    exact ⟨_, rfl, OwnV.nil_ _ _, b⟩))
  have HFO := Lib.hid (fun (V : World) (v : Value) (e : addK zss st ld cs x = 0) (o : OwnV V w.heap.size v (cs ++ [x])) (b : Below w.heap.size w V) => (show RetPI w (addSt zss st ld cs x) (addLd zss st ld cs x) (addCs zss st ld cs x) (addK zss st ld cs x) (.returned (.tuple #[.agg #[.int .i64 st, .int .i64 ld, v], .int .i64 0])) V by
    unfold addSt addLd addCs
    rw [e, if_pos rfl, if_pos rfl, if_pos rfl]
    exact ⟨_, rfl, o, b⟩))
  have e1 : (w.alloc (.cells #[.slice A' n' c'] 26)).heap.size = w.heap.size + 1 := by simp
  have e2 : ((w.alloc (.cells #[.slice A' n' c'] 26)).alloc (.cells #[.int .i64 st, .int .i64 ld, .slice A n c] 29)).heap.size = w.heap.size + 2 := by simp
  have c1 := Chg.of_alloc w (.cells #[.slice A' n' c'] 26) 0 0
  have c2 := Chg.of_alloc (w.alloc (.cells #[.slice A' n' c'] 26)) (.cells #[.int .i64 st, .int .i64 ld, .slice A n c] 29) 0 0
  have c3 := Chg.of_alloc ((w.alloc (.cells #[.slice A' n' c'] 26)).alloc (.cells #[.int .i64 st, .int .i64 ld, .slice A n c] 29)) (.cells #[.int .i64 0, .int .i64 0, .slice none 0 0] 29) 0 0
  have x1 := (SBox.new w 26 #[.slice A' n' c']).still (c2.trans c3)
  have x2 := (SBox.new (w.alloc (.cells #[.slice A' n' c'] 26)) 29 #[.int .i64 st, .int .i64 ld, .slice A n c]).still c3
  have x3 := SBox.new ((w.alloc (.cells #[.slice A' n' c'] 26)).alloc (.cells #[.int .i64 st, .int .i64 ld, .slice A n c] 29)) 29 #[.int .i64 0, .int .i64 0, .slice none 0 0]
  rw [e1] at x2
  rw [e2] at x3
  have C0 := Lib.hid ((c1.trans c2).trans c3)
  have X1 := Lib.hid x1
  have X2 := Lib.hid x2
  have X3 := Lib.hid x3
  have z0 : w.heap.size + 2 < (((w.alloc (.cells #[.slice A' n' c'] 26)).alloc (.cells #[.int .i64 st, .int .i64 ld, .slice A n c] 29)).alloc (.cells #[.int .i64 0, .int .i64 0, .slice none 0 0] 29)).heap.size := by simp
  have D0 := Lib.hid (hD.still C0.out)
  have H0 := Lib.hid (h.still C0.out)
  clear hD h e1 e2 c1 c2 c3 x1 x2 x3
  go_enter Try.func53, Try.ntmps53
  go_wp2_with (first | (refine wpList_load_row rfl 26 _ rfl w.heap.size rfl 26 #[.slice A' n' c'] (0, 0) _ X1.out Try.underlying26 rfl (deal_info7 _) ?_) | (refine wpList_load_row rfl 29 _ rfl (w.heap.size + 1) rfl 29 #[.int .i64 st, .int .i64 ld, .slice A n c] (0, 0) _ X2.out Try.underlying29 rfl (play_info _ _ _ _ _) ?_))
  generalize (((w.alloc (.cells #[.slice A' n' c'] 26)).alloc (.cells #[.int .i64 st, .int .i64 ld, .slice A n c] 29)).alloc (.cells #[.int .i64 0, .int .i64 0, .slice none 0 0] 29)) = W at C0 X1 X2 X3 D0 H0 z0 ⊢
  refine (spec_IsPlay A' n' c' zss st ld A n c cs W (D0.out.more (Nat.le_refl 0) (by omega)) hlz (H0.out.more (Nat.le_refl 0) (by omega)) hn hcap hnil).mono ?_
  rintro e w1 ⟨rfl, c1⟩
  have Y1 := Lib.hid (X1.out.still c1)
  have Y2 := Lib.hid (X2.out.still c1)
  have Y3 := Lib.hid (X3.out.still c1)
  have D1 := Lib.hid (D0.out.still c1)
  have R1 := Lib.hid (H0.out.still c1)
  have C1 := Lib.hid (C0.out.trans c1)
  have K1 := Lib.hid C1.out.to_below
  have z1 : w.heap.size + 2 < w1.heap.size := by have := c1.size; omega
  clear c1 X1 X2 X3 D0 H0 C0 z0
  cases hpb : playB zss st ld cs
  · have hk := Lib.hid (show addK zss st ld cs x = 1 by rw [HG.out, hpb]; rfl)
    have ZS := Lib.hid (setRow_heap w1 (w.heap.size + 2) _ #[.int .i64 0, .int .i64 0, .slice none 0 0] _ _ Y3.out)
    have KS := Lib.hid (show Below w.heap.size w (w1.setRow (w.heap.size + 2) #[.int .i64 0, .int .i64 0, .slice none 0 0]) from K1.out.trans (rowB w1 (by omega) _))
    clear hpb
    go_wp2_with (refine wpList_store_row rfl 29 _ _ rfl (w.heap.size + 2) #[.int .i64 0, .int .i64 0, .slice none 0 0] rfl rfl 29 #[.int .i64 0, .int .i64 0, .slice none 0 0] Y3.out (play_info _ _ _ _ _) rfl (play_cells _ _ _ _ _) ?_)
    refine bodyPost_ret (v := .tuple #[.agg #[.int .i64 0, .int .i64 0, .slice none 0 0], .int .i64 1]) (results_row_tmp8 Try.results53 _ _ (w.heap.size + 2) 29 #[.int .i64 0, .int .i64 0, .slice none 0 0] (0, 0) _ _ rfl rfl ZS.out Try.underlying29 rfl (play_info _ _ _ _ _)) rfl ?_
    exact HFE.out _ 1 (by omega) hk.out KS.out
  obtain ⟨hdl, hld, hcz⟩ := turn_ok hpb
  rw [hl.out] at hcz
  have hn4 := Lib.hid (show n' = 4 by rw [← HN'.out]; exact ((deal_iff zss).1 hdl).1)
  have HG := Lib.hid (show addK zss st ld cs x = if doneB zss cs then 5 else if !hasB (legL zss st ld cs) x then 2 else 0 by rw [HG.out, hpb]; rfl)
  have htr := turnL_rng st ld cs
  have hleg := Lib.hid (show (legL zss st ld cs).length ≤ 1048576 by have := legL_len zss st ld cs; have := (rows_ok hdl (s := (turnL st ld cs).toNat) (by omega)).1; omega)
  have HCZ := Lib.hid hcz
  have HDL := Lib.hid hdl
  clear hpb hdl hcz htr
  go_wp2_with (first | (refine wpList_load_row rfl 26 _ rfl w.heap.size rfl 26 #[.slice A' n' c'] (0, 0) _ Y1.out Try.underlying26 rfl (deal_info7 _) ?_) | (refine wpList_load_row rfl 29 _ rfl (w.heap.size + 1) rfl 29 #[.int .i64 st, .int .i64 ld, .slice A n c] (0, 0) _ Y2.out Try.underlying29 rfl (play_info _ _ _ _ _) ?_))
  refine (l08Done A' n' c' zss st ld A n c cs _ (D1.out.more (Nat.le_refl 0) (by omega)) (by have := hn4.out; omega) (hlz 0 (by have := hn4.out; omega)) (R1.out.more (Nat.le_refl 0) (by omega)) hn).mono ?_
  rintro e w2 ⟨rfl, c2⟩
  have X1 := Lib.hid (Y1.out.still c2)
  have X2 := Lib.hid (Y2.out.still c2)
  have X3 := Lib.hid (Y3.out.still c2)
  have D2 := Lib.hid (D1.out.still c2)
  have R2 := Lib.hid (R1.out.still c2)
  have C2 := Lib.hid (C1.out.trans c2)
  have K2 := Lib.hid C2.out.to_below
  have z2 : w.heap.size + 2 < w2.heap.size := by have := c2.size; omega
  clear c2 Y1 Y2 Y3 D1 R1 C1 K1 z1
  cases hdn : doneB zss cs
  case true =>
    have hk := Lib.hid (show addK zss st ld cs x = 5 by rw [HG.out, hdn]; rfl)
    have ZS := Lib.hid (setRow_heap w2 (w.heap.size + 2) _ #[.int .i64 0, .int .i64 0, .slice none 0 0] _ _ X3.out)
    have KS := Lib.hid (show Below w.heap.size w (w2.setRow (w.heap.size + 2) #[.int .i64 0, .int .i64 0, .slice none 0 0]) from K2.out.trans (rowB w2 (by omega) _))
    clear hdn
    go_wp2_with (refine wpList_store_row rfl 29 _ _ rfl (w.heap.size + 2) #[.int .i64 0, .int .i64 0, .slice none 0 0] rfl rfl 29 #[.int .i64 0, .int .i64 0, .slice none 0 0] X3.out (play_info _ _ _ _ _) rfl (play_cells _ _ _ _ _) ?_)
    refine bodyPost_ret (v := .tuple #[.agg #[.int .i64 0, .int .i64 0, .slice none 0 0], .int .i64 5]) (results_row_tmp8 Try.results53 _ _ (w.heap.size + 2) 29 #[.int .i64 0, .int .i64 0, .slice none 0 0] (0, 0) _ _ rfl rfl ZS.out Try.underlying29 rfl (play_info _ _ _ _ _)) rfl ?_
    exact HFE.out _ 5 (by omega) hk.out KS.out
  have HG := Lib.hid (show addK zss st ld cs x = if !hasB (legL zss st ld cs) x then 2 else 0 by rw [HG.out, hdn]; rfl)
  clear hdn
  go_wp2_with (first | (refine wpList_load_row rfl 26 _ rfl w.heap.size rfl 26 #[.slice A' n' c'] (0, 0) _ X1.out Try.underlying26 rfl (deal_info7 _) ?_) | (refine wpList_load_row rfl 29 _ rfl (w.heap.size + 1) rfl 29 #[.int .i64 st, .int .i64 ld, .slice A n c] (0, 0) _ X2.out Try.underlying29 rfl (play_info _ _ _ _ _) ?_))
  refine (l08Legal A' n' c' zss st ld A n c cs _ (D2.out.more (Nat.le_refl 0) (by omega)) HDL.out (R2.out.more (Nat.le_refl 0) (by omega)) hn hcap HCZ.out hld).mono ?_
  rintro e w3 ⟨U, cu, rfl, _, _, ho, c3⟩
  have Y1 := Lib.hid (X1.out.still c3)
  have Y2 := Lib.hid (X2.out.still c3)
  have Y3 := Lib.hid (X3.out.still c3)
  have R3 := Lib.hid (R2.out.still c3)
  have C3 := Lib.hid (C2.out.trans c3)
  have K3 := Lib.hid C3.out.to_below
  have L3 := Lib.hid ho.rd
  have z3 : w.heap.size + 2 < w3.heap.size := by have := c3.size; omega
  clear c3 ho X1 X2 X3 D2 R2 C2 K2 z2
  go_wp2_with fail
  refine (l01Has U (legL zss st ld cs).length cu x (legL zss st ld cs) _ _ _ L3.out hleg.out).mono ?_
  rintro e w4 ⟨rfl, hw4⟩
  subst hw4
  cases hb : hasB (legL zss st ld cs) x
  · have hk := Lib.hid (show addK zss st ld cs x = 2 by rw [HG.out, hb]; rfl)
    have ZS := Lib.hid (setRow_heap w3 (w.heap.size + 2) _ #[.int .i64 0, .int .i64 0, .slice none 0 0] _ _ Y3.out)
    have KS := Lib.hid (show Below w.heap.size w (w3.setRow (w.heap.size + 2) #[.int .i64 0, .int .i64 0, .slice none 0 0]) from K3.out.trans (rowB w3 (by omega) _))
    clear hb
    go_wp2_with (refine wpList_store_row rfl 29 _ _ rfl (w.heap.size + 2) #[.int .i64 0, .int .i64 0, .slice none 0 0] rfl rfl 29 #[.int .i64 0, .int .i64 0, .slice none 0 0] Y3.out (play_info _ _ _ _ _) rfl (play_cells _ _ _ _ _) ?_)
    refine bodyPost_ret (v := .tuple #[.agg #[.int .i64 0, .int .i64 0, .slice none 0 0], .int .i64 2]) (results_row_tmp8 Try.results53 _ _ (w.heap.size + 2) 29 #[.int .i64 0, .int .i64 0, .slice none 0 0] (0, 0) _ _ rfl rfl ZS.out Try.underlying29 rfl (play_info _ _ _ _ _)) rfl ?_
    exact HFE.out _ 2 (by omega) hk.out KS.out
  have hk := Lib.hid (show addK zss st ld cs x = 0 by rw [HG.out, hb]; rfl)
  clear hb
  go_wp2_with (first | (refine wpList_load_row rfl 26 _ rfl w.heap.size rfl 26 #[.slice A' n' c'] (0, 0) _ Y1.out Try.underlying26 rfl (deal_info7 _) ?_) | (refine wpList_load_row rfl 29 _ rfl (w.heap.size + 1) rfl 29 #[.int .i64 st, .int .i64 ld, .slice A n c] (0, 0) _ Y2.out Try.underlying29 rfl (play_info _ _ _ _ _) ?_))
  refine (l08Add st ld A n c cs x _ (R3.out.more (Nat.le_refl _) (by omega)) hn hnil).mono ?_
  rintro e w5 ⟨v, rfl, o5, b5⟩
  obtain ⟨B, cb, hu, _⟩ := o5.form
  generalize hm : (cs ++ [x]).length = m at hu
  clear hm
  subst hu
  have Z5 := Lib.hid ((b5.block (w.heap.size + 2) (by omega)).trans Y3.out)
  have ZS := Lib.hid (setRow_heap w5 (w.heap.size + 2) _ #[.int .i64 st, .int .i64 ld, .slice B m cb] _ _ Z5.out)
  have KS := Lib.hid (show Below w.heap.size w (w5.setRow (w.heap.size + 2) #[.int .i64 st, .int .i64 ld, .slice B m cb]) from (K3.out.trans (b5.mono (by omega))).trans (rowB w5 (by omega) _))
  have OV2 := Lib.hid (show OwnV (w5.setRow (w.heap.size + 2) #[.int .i64 st, .int .i64 ld, .slice B m cb]) w.heap.size (.slice B m cb) (cs ++ [x]) from (o5.far w5 _ (by omega)).more (by omega))
  clear b5 o5
  go_wp2_with (refine wpList_store_row rfl 29 _ _ rfl (w.heap.size + 2) #[.int .i64 st, .int .i64 ld, .slice B m cb] rfl rfl 29 #[.int .i64 0, .int .i64 0, .slice none 0 0] Z5.out (play_info _ _ _ _ _) rfl (play_cells _ _ _ _ _) ?_)
  refine bodyPost_ret (v := .tuple #[.agg #[.int .i64 st, .int .i64 ld, .slice B m cb], .int .i64 0]) (results_row_tmp8 Try.results53 _ _ (w.heap.size + 2) 29 #[.int .i64 st, .int .i64 ld, .slice B m cb] (0, 0) _ _ rfl rfl ZS.out Try.underlying29 rfl (play_info _ _ _ _ _)) rfl ?_
  exact HFO.out _ _ hk.out OV2.out KS.out
end Go.Proofs.Yteglffbeldlibaa.Lib1
