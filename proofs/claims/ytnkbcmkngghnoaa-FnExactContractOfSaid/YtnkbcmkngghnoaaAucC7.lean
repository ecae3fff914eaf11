/- Chapter 7: the model's AddCall and ContractOf. -/
import Derived.Test.YtnkbcmkngghnoaaAucB7
namespace Go.Proofs.Ytnkbcmkngghnoaa.Lib1
open Go.RowKit
set_option maxRecDepth 100000

theorem results_row_tmp {P : Program} {fn : Func} {p u : Tmp} {ty : TypeId} (h : fn.results = #[.cell p ty, .tmp u]) (tmps : Array Value) (w : World) (g : Nat) (t : TypeId) (cs : Array Value) (fr : Nat × Nat) (d : TypeDesc) (v : Value)
    (hp : tmps.getD p undef = .pointer (some ⟨g, 0, none⟩)) (hv : tmps.getD u undef = v) (hg : w.heap[g]? = some (.cells cs t fr))
    (hu : P.underlying ty = some d) (hd : (match d with | .struct _ | .array _ _ => true | _ => false) = true) (hi : (P.info? ty).map (·.size) = some cs.size) :
    (results fn tmps).run P w = .ok (.tuple #[.agg cs, v]) w := by
  have hp' : tmps[p]?.getD undef = .pointer (some ⟨g, 0, none⟩) := by simpa using hp
  have hv' : tmps[u]?.getD undef = v := by simpa using hv
  simp [results, h, hp', hv', asAddr, run_loadVar_row w g t ty cs fr d hg hu hd hi]
/-! ### AddCall -/
def addB (d : Int) (zs : List Int) (n : Nat) (x : Int) : Int := if !(inB d 0 3 && validTo zs n) then 1 else if overTo zs n then 5 else if !legTo zs n x then 2 else 0
def addD (d : Int) (zs : List Int) (n : Nat) (x : Int) : Int := if addB d zs n x = 0 then d else 0
def addL (d : Int) (zs : List Int) (n : Nat) (x : Int) : List Int := if addB d zs n x = 0 then zs ++ [x] else []
/-- An auction and a code are handed back, the auction in memory of the call's own. -/
def RetAI (w : World) (d : Int) (zs : List Int) (k : Int) (e : Ending) (w' : World) : Prop := ∃ v, e = .returned (.tuple #[.agg #[.int .i64 d, v], .int .i64 k]) ∧ OwnV w' w.heap.size v zs ∧ Below w.heap.size w w'
set_option maxHeartbeats 3200000 in
theorem spec_AddCall (d : Int) (A : Option Addr) (n c : Nat) (zs : List Int) (x : Int) (w : World) (h : Rd w 0 w.heap.size A n zs) (hn : n ≤ 1048576) (hcap : n ≤ c) (hnil : A = none → c = 0) :
    Calls Try.prog 38 #[.agg #[.int .i64 d, .slice A n c], .int .i64 x] w (RetAI w (addD d zs n x) (addL d zs n x) (addB d zs n x)) := by
  have e1 : (w.alloc (.cells #[.int .i64 d, .slice A n c] 26)).heap.size = w.heap.size + 1 := by simp
  have B0 := Lib.hid ((ABox.new w d A n c).still (Chg.of_alloc (w.alloc (.cells #[.int .i64 d, .slice A n c] 26)) (.cells aucZero 26) 0 0))
  have C0 := Lib.hid ((Chg.of_alloc w (.cells #[.int .i64 d, .slice A n c] 26) 0 0).trans (Chg.of_alloc (w.alloc (.cells #[.int .i64 d, .slice A n c] 26)) (.cells aucZero 26) 0 0))
  have Z0 := heap_alloc_new (w.alloc (.cells #[.int .i64 d, .slice A n c] 26)) (.cells aucZero 26)
  rw [e1] at Z0
  have HZ := Lib.hid Z0
  have H := Lib.hid (h.still C0.out)
  have sz := Lib.hid (show ((w.alloc (.cells #[.int .i64 d, .slice A n c] 26)).alloc (.cells aucZero 26)).heap.size = w.heap.size + 2 by simp)
  have hgs := Lib.hid (show addB d zs n x = if !(inB d 0 3 && validTo zs n) then 1 else if overTo zs n then 5 else if !legTo zs n x then 2 else 0 from rfl)
  have hfin : ∀ k : Int, k ≠ 0 → addB d zs n x = k → addD d zs n x = 0 ∧ addL d zs n x = [] := fun k hk e => by unfold addD addL; rw [e, if_neg hk, if_neg hk]; exact ⟨rfl, rfl⟩
  have hfin0 : addB d zs n x = 0 → addD d zs n x = d ∧ addL d zs n x = zs ++ [x] := fun e => by unfold addD addL; rw [if_pos e, if_pos e]; exact ⟨rfl, rfl⟩
  have HF := Lib.hid hfin
  have HF0 := Lib.hid hfin0
  clear h e1 Z0 hfin hfin0
  have B0' : Hid (ABox ((w.alloc (.cells #[.int .i64 d, .slice A n c] 26)).alloc (.cells #[.int .i64 0, .slice none 0 0] 26)) w.heap.size d A n c) := B0.out
  go_enter Try.func38, Try.ntmps38
  go_wp2_with (refine wpList_load_row rfl 26 _ rfl w.heap.size rfl 26 #[.int .i64 d, .slice A n c] (0, 0) _ B0'.out Try.underlying26 rfl (auc_info d A n c) ?_)
  have HZ : Hid (((w.alloc (.cells #[.int .i64 d, .slice A n c] 26)).alloc (.cells #[.int .i64 0, .slice none 0 0] 26)).heap[w.heap.size + 1]? = some (.cells aucZero 26 (0, 0))) := HZ.out
  have H : Hid (Rd ((w.alloc (.cells #[.int .i64 d, .slice A n c] 26)).alloc (.cells #[.int .i64 0, .slice none 0 0] 26)) 0 w.heap.size A n zs) := H.out
  have sz : Hid (((w.alloc (.cells #[.int .i64 d, .slice A n c] 26)).alloc (.cells #[.int .i64 0, .slice none 0 0] 26)).heap.size = w.heap.size + 2) := sz.out
  have KW : Hid (Below w.heap.size w ((w.alloc (.cells #[.int .i64 d, .slice A n c] 26)).alloc (.cells #[.int .i64 0, .slice none 0 0] 26))) := Chg.to_below C0.out
  clear B0 C0
  generalize (w.alloc (.cells #[.int .i64 d, .slice A n c] 26)).alloc (.cells #[.int .i64 0, .slice none 0 0] 26) = W at B0' HZ H sz KW ⊢
  refine (spec_IsAuction d A n c zs _ (Rp.of_rd H.out) hn hcap).mono ?_
  rintro e w1 ⟨rfl, c1⟩
  have B1 := Lib.hid (B0'.out.still c1)
  have hb1 := B1.out.c1
  have H1 := Lib.hid (H.out.still c1)
  have Z1 := Lib.hid ((c1.block (w.heap.size + 1) (by have := sz.out; omega) (.inr (Nat.zero_le _))).trans HZ.out)
  have KW1 := Lib.hid (KW.out.trans (Chg.to_below c1 |>.mono (by have := sz.out; omega)))
  have sz1 := Lib.hid (show w.heap.size + 2 ≤ w1.heap.size by have := c1.size; have := sz.out; omega)
  clear c1 B0' HZ H KW sz
  have fail_end : ∀ (V : World) (k : Int), k ≠ 0 → addB d zs n x = k → Below w.heap.size w V → w.heap.size ≤ V.heap.size → RetAI w (addD d zs n x) (addL d zs n x) (addB d zs n x) (.returned (.tuple #[.agg aucZero, .int .i64 k])) V := fun V k hk e b _ => by
    obtain ⟨e2, e3⟩ := HF.out k hk e
    rw [e2, e3, e]
    exact ⟨_, rfl, OwnV.nil_ _ _, b⟩
  have HFE := Lib.hid fail_end
  clear fail_end
  cases hv : inB d 0 3 && validTo zs n
  · have hk : Hid (addB d zs n x = 1) := by show addB d zs n x = 1; rw [hgs.out, hv]; rfl
    have ZS := Lib.hid (setRow_heap w1 (w.heap.size + 1) _ aucZero _ _ Z1.out)
    have KS := Lib.hid (show Below w.heap.size w (w1.setRow (w.heap.size + 1) aucZero) from KW1.out.trans (rowB w1 (by omega) _))
    go_wp2_with (refine wpList_store_row rfl 26 _ _ rfl (w.heap.size + 1) aucZero rfl rfl 26 aucZero Z1.out (auc_info 0 none 0 0) rfl (auc_cells 0 none 0 0) ?_)
    refine bodyPost_ret (v := .tuple #[.agg aucZero, .int .i64 1]) (results_row_tmp Try.results38 _ _ (w.heap.size + 1) 26 aucZero (0, 0) _ _ rfl rfl ZS.out Try.underlying26 rfl (auc_info 0 none 0 0)) rfl ?_
    exact HFE.out _ 1 (by omega) hk.out KS.out KS.out.size
  · go_wp2_with fail
    refine (l07Over A n c zs _ (Rp.of_rd H1.out) hn).mono ?_
    rintro e w' ⟨rfl, rfl⟩
    cases ho : overTo zs n
    · go_wp2_with fail
      refine (l07Legal A n c zs x _ (Rp.of_rd H1.out) hn).mono ?_
      rintro e w' ⟨rfl, rfl⟩
      cases hl : legTo zs n x
      · have hk : Hid (addB d zs n x = 2) := by show addB d zs n x = 2; rw [hgs.out, hv, ho, hl]; rfl
        have ZS := Lib.hid (setRow_heap w1 (w.heap.size + 1) _ aucZero _ _ Z1.out)
        have KS := Lib.hid (show Below w.heap.size w (w1.setRow (w.heap.size + 1) aucZero) from KW1.out.trans (rowB w1 (by omega) _))
        go_wp2_with (refine wpList_store_row rfl 26 _ _ rfl (w.heap.size + 1) aucZero rfl rfl 26 aucZero Z1.out (auc_info 0 none 0 0) rfl (auc_cells 0 none 0 0) ?_)
        refine bodyPost_ret (v := .tuple #[.agg aucZero, .int .i64 2]) (results_row_tmp Try.results38 _ _ (w.heap.size + 1) 26 aucZero (0, 0) _ _ rfl rfl ZS.out Try.underlying26 rfl (auc_info 0 none 0 0)) rfl ?_
        exact HFE.out _ 2 (by omega) hk.out KS.out KS.out.size
      · have hk : Hid (addB d zs n x = 0) := by show addB d zs n x = 0; rw [hgs.out, hv, ho, hl]; rfl
        go_wp2_with (refine wpList_load_row rfl 26 _ rfl w.heap.size rfl 26 #[.int .i64 d, .slice A n c] (0, 0) _ B1.out Try.underlying26 rfl (auc_info d A n c) ?_)
        refine (l07Add d A n c zs x _ ((H1.out.more (Nat.le_refl _) (by have := sz1.out; omega))) hn hnil).mono ?_
        rintro e w2 ⟨v, rfl, o2, b2⟩
        obtain ⟨B, cb, hu, _⟩ := o2.form
        generalize hm : (zs ++ [x]).length = m at hu
        clear hm
        subst hu
        have Z2 := Lib.hid ((b2.block (w.heap.size + 1) (by have := sz1.out; omega)).trans Z1.out)
        have ZS := Lib.hid (setRow_heap w2 (w.heap.size + 1) _ #[.int .i64 d, .slice B m cb] _ _ Z2.out)
        have KS := Lib.hid (show Below w.heap.size w (w2.setRow (w.heap.size + 1) #[.int .i64 d, .slice B m cb]) from (KW1.out.trans (b2.mono (by have := sz1.out; omega))).trans (rowB w2 (by omega) _))
        have OV2 := Lib.hid (show OwnV (w2.setRow (w.heap.size + 1) #[.int .i64 d, .slice B m cb]) w.heap.size (.slice B m cb) (zs ++ [x]) from (o2.far w2 _ (by have := sz1.out; omega)).more (by have := sz1.out; omega))
        clear b2 o2
        go_wp2_with (refine wpList_store_row rfl 26 _ _ rfl (w.heap.size + 1) #[.int .i64 d, .slice B m cb] rfl rfl 26 aucZero Z2.out (auc_info d B m cb) rfl (auc_cells d B m cb) ?_)
        refine bodyPost_ret (v := .tuple #[.agg #[.int .i64 d, .slice B m cb], .int .i64 0]) (results_row_tmp Try.results38 _ _ (w.heap.size + 1) 26 #[.int .i64 d, .slice B m cb] (0, 0) _ _ rfl rfl ZS.out Try.underlying26 rfl (auc_info d B m cb)) rfl ?_
        have q := HF0.out hk.out
        rw [q.1, q.2, hk.out]
        exact ⟨_, rfl, OV2.out, KS.out⟩
    · have hk : Hid (addB d zs n x = 5) := by show addB d zs n x = 5; rw [hgs.out, hv, ho]; rfl
      have ZS := Lib.hid (setRow_heap w1 (w.heap.size + 1) _ aucZero _ _ Z1.out)
      have KS := Lib.hid (show Below w.heap.size w (w1.setRow (w.heap.size + 1) aucZero) from KW1.out.trans (rowB w1 (by omega) _))
      go_wp2_with (refine wpList_store_row rfl 26 _ _ rfl (w.heap.size + 1) aucZero rfl rfl 26 aucZero Z1.out (auc_info 0 none 0 0) rfl (auc_cells 0 none 0 0) ?_)
      refine bodyPost_ret (v := .tuple #[.agg aucZero, .int .i64 5]) (results_row_tmp Try.results38 _ _ (w.heap.size + 1) 26 aucZero (0, 0) _ _ rfl rfl ZS.out Try.underlying26 rfl (auc_info 0 none 0 0)) rfl ?_
      exact HFE.out _ 5 (by omega) hk.out KS.out KS.out.size
end Go.Proofs.Ytnkbcmkngghnoaa.Lib1
