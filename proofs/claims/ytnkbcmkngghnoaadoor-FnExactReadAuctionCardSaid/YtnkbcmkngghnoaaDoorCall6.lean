/- Chapter 6: calls and bids as numbers; contracts of the functions that only compute with numbers (program and model), and the exact laws that compare them. -/
import Derived.Test.YtnkbcmkngghnoaaDoorBase1
import Derived.Laws.StructEq
import Derived.Laws.Tables
import Derived.Lib.MinMax
import Derived.ChangeKeysEq
import Derived.Deep.RegionWith
import Derived.BigQuiet
import Derived.Deep.RegionHeld3
namespace Go.Proofs.YtnkbcmkngghnoaaDoor.Lib1
open Go.RowKit
set_option maxRecDepth 100000

/-! ### Numbers of calls -/
def levV (c : Int) : Int := if inB c 3 37 then (c - 3) / 5 + 1 else 0
def strV (c : Int) : Int := if inB c 3 37 then (c - 3) % 5 else -1
def bidV (l s : Int) : Int := if inB l 1 7 && inB s 0 4 then 3 + 5 * (l - 1) + s else -1
def lowB (c s : Int) : Int := max (c + 1) 3 + (s - (max (c + 1) 3 - 3)) % 5
def lowV (c s : Int) : Int := if inB c 0 37 && inB s 0 4 then if lowB c s ≤ 37 then lowB c s else -1 else -1
def jumpV (b c : Int) : Bool := inB b 3 37 && inB c 3 37 && decide (b < c) && decide (lowV b (strV c) < c)
theorem levV_yes {c : Int} (h : 3 ≤ c ∧ c ≤ 37) : levV c = (c - 3) / 5 + 1 := by simp [levV, inB_true h]
theorem levV_no {c : Int} (h : ¬ (3 ≤ c ∧ c ≤ 37)) : levV c = 0 := by simp [levV, inB_false h]
theorem strV_yes {c : Int} (h : 3 ≤ c ∧ c ≤ 37) : strV c = (c - 3) % 5 := by simp [strV, inB_true h]
theorem strV_no {c : Int} (h : ¬ (3 ≤ c ∧ c ≤ 37)) : strV c = -1 := by simp [strV, inB_false h]
theorem bidV_yes {l s : Int} (h : (1 ≤ l ∧ l ≤ 7) ∧ 0 ≤ s ∧ s ≤ 4) : bidV l s = 3 + 5 * (l - 1) + s := by simp [bidV, inB_true h.1, inB_true h.2]
theorem bidV_no {l s : Int} (h : ¬ ((1 ≤ l ∧ l ≤ 7) ∧ 0 ≤ s ∧ s ≤ 4)) : bidV l s = -1 := by
  unfold bidV
  by_cases h1 : 1 ≤ l ∧ l ≤ 7
  · rw [inB_true h1, inB_false (fun h2 => h ⟨h1, h2⟩)]; rfl
  · rw [inB_false h1]; rfl
theorem lowV_yes {c s : Int} (h : (0 ≤ c ∧ c ≤ 37) ∧ 0 ≤ s ∧ s ≤ 4) (hl : lowB c s ≤ 37) : lowV c s = lowB c s := by simp [lowV, inB_true h.1, inB_true h.2, hl]
theorem lowV_end {c s : Int} (hl : ¬ lowB c s ≤ 37) : lowV c s = -1 := by unfold lowV; rw [if_neg hl]; split <;> rfl
theorem lowV_no {c s : Int} (h : ¬ ((0 ≤ c ∧ c ≤ 37) ∧ 0 ≤ s ∧ s ≤ 4)) : lowV c s = -1 := by
  unfold lowV
  by_cases h1 : 0 ≤ c ∧ c ≤ 37
  · rw [inB_true h1, inB_false (fun h2 => h ⟨h1, h2⟩)]; rfl
  · rw [inB_false h1]; rfl
/-- What the lowest bid is: a bid of the strain above c, and none between. -/
theorem lowB_is {c s b : Int} (hs : 0 ≤ s ∧ s ≤ 4) (h1 : c < b) (h3 : 3 ≤ b) (hb : (b - 3) % 5 = s) (hn : ∀ j, c < j → 3 ≤ j → j < b → (j - 3) % 5 ≠ s) : lowB c s = b := by
  unfold lowB
  have hm : max (c + 1) 3 ≤ b := by omega
  generalize hM : max (c + 1) 3 = m at hm
  have h5 : m + (s - (m - 3)) % 5 ≤ b := by omega
  rcases Int.lt_or_eq_of_le h5 with h | h
  · exact absurd (by omega) (hn (m + (s - (m - 3)) % 5) (by omega) (by omega) h)
  · exact h
theorem lowB_gt {c s b : Int} (hs : 0 ≤ s ∧ s ≤ 4) (hn : ∀ j, c < j → 3 ≤ j → j ≤ b → (j - 3) % 5 ≠ s) : b < lowB c s := by
  unfold lowB
  generalize hM : max (c + 1) 3 = m
  by_cases h : b < m + (s - (m - 3)) % 5
  · exact h
  · exact absurd (by omega) (hn (m + (s - (m - 3)) % 5) (by omega) (by omega) (by omega))

/-! ### The model -/
theorem spec_IsCall (c : Int) (w : World) : Calls Tryd.prog 68 #[.int .i64 c] w fun e w' => e = .returned (.bool (inB c 0 37)) ∧ w = w' := by
  go_enter Tryd.func68, Tryd.ntmps68
  go_wp2_with (go_at_call 33; refine (l01In _ _ _ _).mono ?_; rintro e w' ⟨rfl, rfl⟩)
  go_ret
  exact ⟨rfl, rfl⟩
theorem l06Bid (c : Int) (w : World) : Calls Tryd.prog 65 #[.int .i64 c] w fun e w' => e = .returned (.bool (inB c 3 37)) ∧ w = w' := by
  go_enter Tryd.func65, Tryd.ntmps65
  go_wp2_with (go_at_call 33; refine (l01In _ _ _ _).mono ?_; rintro e w' ⟨rfl, rfl⟩)
  go_ret
  exact ⟨rfl, rfl⟩
theorem spec_LevelOf (c : Int) (w : World) : Calls Tryd.prog 70 #[.int .i64 c] w fun e w' => e = .returned (.int .i64 (levV c)) ∧ w = w' := by
  by_cases h : 3 ≤ c ∧ c ≤ 37
  · have b := inB_true h
    have hv : levV c = 1 + (c - 3) / 5 := by rw [levV_yes h]; omega
    rw [hv]
    obtain ⟨c0, c1⟩ := h
    have c2 : 0 ≤ c - 3 := by omega
    clear hv
    go_enter Tryd.func70, Tryd.ntmps70
    go_wp2_with (go_at_call 65; refine (l06Bid _ _).mono ?_; rintro e w' ⟨rfl, rfl⟩)
    go_ret
    exact ⟨rfl, rfl⟩
  · have b := inB_false h
    rw [levV_no h]
    clear h
    go_enter Tryd.func70, Tryd.ntmps70
    go_wp2_with (go_at_call 65; refine (l06Bid _ _).mono ?_; rintro e w' ⟨rfl, rfl⟩)
    go_ret
    exact ⟨rfl, rfl⟩
theorem spec_StrainOf (c : Int) (w : World) : Calls Tryd.prog 69 #[.int .i64 c] w fun e w' => e = .returned (.int .i64 (strV c)) ∧ w = w' := by
  by_cases h : 3 ≤ c ∧ c ≤ 37
  · have b := inB_true h
    rw [strV_yes h]
    obtain ⟨c0, c1⟩ := h
    have c2 : 0 ≤ c - 3 := by omega
    go_enter Tryd.func69, Tryd.ntmps69
    go_wp2_with (go_at_call 65; refine (l06Bid _ _).mono ?_; rintro e w' ⟨rfl, rfl⟩)
    go_ret
    exact ⟨rfl, rfl⟩
  · have b := inB_false h
    rw [strV_no h]
    clear h
    go_enter Tryd.func69, Tryd.ntmps69
    go_wp2_with (go_at_call 65; refine (l06Bid _ _).mono ?_; rintro e w' ⟨rfl, rfl⟩)
    go_ret
    exact ⟨rfl, rfl⟩
theorem spec_BidOf (l s : Int) (w : World) : Calls Tryd.prog 39 #[.int .i64 l, .int .i64 s] w fun e w' => e = .returned (.int .i64 (bidV l s)) ∧ w = w' := by
  by_cases hl : 1 ≤ l ∧ l ≤ 7
  · have b1 := inB_true hl
    by_cases hs : 0 ≤ s ∧ s ≤ 4
    · have b2 := inB_true hs
      rw [bidV_yes ⟨hl, hs⟩]
      obtain ⟨l0, l1⟩ := hl
      obtain ⟨s0, s1⟩ := hs
      go_enter Tryd.func39, Tryd.ntmps39
      go_wp2_with (go_at_call 33; refine (l01In _ _ _ _).mono ?_; rintro e w' ⟨rfl, rfl⟩)
      go_ret
      exact ⟨rfl, rfl⟩
    · have b2 := inB_false hs
      rw [bidV_no (fun h => hs h.2)]
      clear hl hs
      go_enter Tryd.func39, Tryd.ntmps39
      go_wp2_with (go_at_call 33; refine (l01In _ _ _ _).mono ?_; rintro e w' ⟨rfl, rfl⟩)
      go_ret
      exact ⟨rfl, rfl⟩
  · have b1 := inB_false hl
    rw [bidV_no (fun h => hl h.1)]
    clear hl
    go_enter Tryd.func39, Tryd.ntmps39
    go_wp2_with (go_at_call 33; refine (l01In _ _ _ _).mono ?_; rintro e w' ⟨rfl, rfl⟩)
    go_ret
    exact ⟨rfl, rfl⟩


/-! ### The program -/

theorem isBid (c : Int) (w : World) : Calls Tryd.prog 56 #[.int .i64 c] w fun e w' => e = .returned (.bool (inB c 3 37)) ∧ w = w' := by
  by_cases h1 : 3 ≤ c
  · by_cases h2 : c ≤ 37
    · rw [inB_true ⟨h1, h2⟩]
      go_enter Tryd.func56, Tryd.ntmps56
      go_wp2
      go_ret
      exact ⟨rfl, rfl⟩
    · rw [inB_false (by omega)]
      go_enter Tryd.func56, Tryd.ntmps56
      go_wp2
      go_ret
      exact ⟨rfl, rfl⟩
  · rw [inB_false (by omega)]
    go_enter Tryd.func56, Tryd.ntmps56
    go_wp2
    go_ret
    exact ⟨rfl, rfl⟩

/-- A bid's level and strain, as the program's array. -/
def propA (l s : Int) : Array Value := #[.int .i64 l, .int .i64 s]
theorem prop_info (l s : Int) : (Tryd.prog.info? 99).map (·.size) = some (propA l s).size := by kernel_rfl
theorem prop_cells (l s : Int) : (propA l s).all (·.oneCell') = true := by kernel_rfl
theorem prop_build (l s : Int) : Tryd.prog.built 99 [(0, .int .i64 l), (1, .int .i64 s)] = some (propA l s) := by kernel_rfl
theorem prop_at0 (l s : Int) (w : World) : (Instr.index 99 (.agg (propA l s)) (.int .i64 0)).run Tryd.prog w = .ok (.int .i64 l) w := by kernel_rfl
theorem prop_at1 (l s : Int) (w : World) : (Instr.index 99 (.agg (propA l s)) (.int .i64 1)).run Tryd.prog w = .ok (.int .i64 s) w := by kernel_rfl
theorem Chg.rowC {w w1 : World} (h : Chg w w1 0 0) {g : Nat} (hg : w.heap.size ≤ g) (cs : Array Value) : Chg w (w1.setRow g cs) 0 0 :=
  ⟨h.os, h.tape, h.output, by rw [setRow_size]; exact h.size, fun k hk hq => (setRow_other w1 g k cs (by omega)).trans (h.block k hk hq)⟩
theorem propertiesOf (c : Int) (w : World) (h0 : 3 ≤ c) (h1 : c ≤ 37) :
    Calls Tryd.prog 71 #[.int .i64 c] w fun e w' => e = .returned (.agg (propA ((c - 3) / 5 + 1) ((c - 3) % 5))) ∧ Chg w w' 0 0 := by
  have c2 : 0 ≤ c - 3 := by omega
  have hg := heap_alloc_new w (.cells #[.int .i64 0, .int .i64 0] 99)
  have hg2 := setRow_heap _ _ _ (propA ((c - 3) / 5 + 1) ((c - 3) % 5)) _ _ hg
  have hc := (Chg.of_alloc w (.cells #[.int .i64 0, .int .i64 0] 99) 0 0).rowC (Nat.le_refl _) (propA ((c - 3) / 5 + 1) ((c - 3) % 5))
  have HG := Lib.hid hg2
  have HC := Lib.hid hc
  clear hg2 hc
  go_enter Tryd.func71, Tryd.ntmps71
  go_wp2_with (refine wpList_store_row rfl 99 _ _ rfl w.heap.size (propA ((c - 3) / 5 + 1) ((c - 3) % 5)) rfl rfl 99 _ hg (prop_info _ _) rfl (prop_cells _ _) ?_)
  refine bodyPost_ret (v := .agg (propA ((c - 3) / 5 + 1) ((c - 3) % 5))) (results_cell_row Tryd.results71 _ _ w.heap.size 99 (propA ((c - 3) / 5 + 1) ((c - 3) % 5)) (0, 0) _ rfl HG.out Tryd.underlying99 rfl (prop_info _ _)) rfl ?_
  exact ⟨rfl, HC.out⟩
theorem impl_LevelOf (c : Int) (w : World) : Calls Tryd.prog 58 #[.int .i64 c] w fun e w' => e = .returned (.int .i64 (levV c)) ∧ Chg w w' 0 0 := by
  by_cases h : 3 ≤ c ∧ c ≤ 37
  · have b := inB_true h
    rw [levV_yes h]
    obtain ⟨c0, c1⟩ := h
    have hat := prop_at0 ((c - 3) / 5 + 1) ((c - 3) % 5)
    go_enter Tryd.func58, Tryd.ntmps58
    go_wp2_with (first | (go_at_call 56; refine (isBid _ _).mono ?_; rintro e w' ⟨rfl, rfl⟩) | (go_at_call 71; refine (propertiesOf c _ c0 c1).mono ?_; rintro e w1 ⟨rfl, hch⟩))
    go_ret
    exact ⟨rfl, hch⟩
  · have b := inB_false h
    rw [levV_no h]
    clear h
    go_enter Tryd.func58, Tryd.ntmps58
    go_wp2_with (go_at_call 56; refine (isBid _ _).mono ?_; rintro e w' ⟨rfl, rfl⟩)
    go_ret
    exact ⟨rfl, Chg.refl _ _ _⟩
theorem impl_StrainOf (c : Int) (w : World) : Calls Tryd.prog 59 #[.int .i64 c] w fun e w' => e = .returned (.int .i64 (strV c)) ∧ Chg w w' 0 0 := by
  by_cases h : 3 ≤ c ∧ c ≤ 37
  · have b := inB_true h
    rw [strV_yes h]
    obtain ⟨c0, c1⟩ := h
    have hat := prop_at1 ((c - 3) / 5 + 1) ((c - 3) % 5)
    go_enter Tryd.func59, Tryd.ntmps59
    go_wp2_with (first | (go_at_call 56; refine (isBid _ _).mono ?_; rintro e w' ⟨rfl, rfl⟩) | (go_at_call 71; refine (propertiesOf c _ c0 c1).mono ?_; rintro e w1 ⟨rfl, hch⟩))
    go_ret
    exact ⟨rfl, hch⟩
  · have b := inB_false h
    rw [strV_no h]
    clear h
    go_enter Tryd.func59, Tryd.ntmps59
    go_wp2_with (go_at_call 56; refine (isBid _ _).mono ?_; rintro e w' ⟨rfl, rfl⟩)
    go_ret
    exact ⟨rfl, Chg.refl _ _ _⟩

theorem part0 (a b : Int) (w : World) : (part 2 (propA a b) (0 * 1)).run Tryd.prog w = .ok (.int .i64 a) w := by kernel_rfl
theorem part1 (a b : Int) (w : World) : (part 2 (propA a b) (1 * 1)).run Tryd.prog w = .ok (.int .i64 b) w := by kernel_rfl
theorem cells_int : Tryd.prog.cellsOf 2 = 1 := by kernel_rfl
theorem prop_eq (a b c d : Int) (w : World) : (binOp .eql 99 (.agg (propA a b)) (.agg (propA c d))).run Tryd.prog w = .ok (.bool (a == c && b == d)) w := by
  obtain ⟨i0, hi, _⟩ := info_parts cells_info
  rw [run_eql_struct, show (10000 : Nat) = 9999 + 1 from rfl, run_equalIn_array w 9999 _ _ Tryd.underlying99 hi, cells_int]
  have e1 := run_equalIn_int (P := Tryd.prog) w 9998 2 .i64 .i64 a c Tryd.underlying2
  have e2 := run_equalIn_int (P := Tryd.prog) w 9998 2 .i64 .i64 b d Tryd.underlying2
  show (Result.andThen ((Op.eqItems (9998 + 1) 2 1 (propA a b) (propA c d) [0, 1]).run Tryd.prog w) _) = _
  simp only [Op.eqItems, Sem.run_bind, part0, Result.andThen_ok, e1]
  cases a == c
  · simp
  · simp only [Bool.not_true, Bool.false_eq_true, if_false, Sem.run_bind, part1, Result.andThen_ok, e2, Bool.true_and]
    cases b == d <;> simp
theorem prop_load (l s : Int) (g : Nat) (w : World) (h : w.heap[g]? = some (.cells (propA l s) 99 (0, 0))) : (loadVar 99 ⟨g, 0, none⟩).run Tryd.prog w = .ok (.agg (propA l s)) w :=
  run_loadVar_row w g 99 99 (propA l s) (0, 0) _ h Tryd.underlying99 rfl (prop_info l s)
theorem prop_exec (l s : Int) (g : Nat) (w : World) {ev : Operand → Value} {o : Oper} {x : Operand} (ho : o.op = .load 99 x) (hx : ev x = .pointer (some ⟨g, 0, none⟩)) (h : w.heap[g]? = some (.cells (propA l s) 99 (0, 0))) : (execOp ev o).run Tryd.prog w = .ok (.value (.agg (propA l s))) w := by
  unfold execOp
  simp only [ho, hx, Instr.loadAt, Instr.sureAddr, Sem.run_bind, Sem.run_pure, Result.andThen_ok, prop_load l s g w h]
theorem bid_of_prop {l s b : Int} (h0 : 3 ≤ b) (h1 : b ≤ 37) (h : ((b - 3) / 5 + 1 == l && (b - 3) % 5 == s) = true) : bidV l s = b := by
  simp only [Bool.and_eq_true, beq_iff_eq] at h
  rw [bidV_yes (by omega)]; omega
theorem bid_not_prop {l s b : Int} (h0 : 3 ≤ b) (h1 : b ≤ 37) (h : ((b - 3) / 5 + 1 == l && (b - 3) % 5 == s) = false) : bidV l s ≠ b := by
  intro hb
  by_cases hq : (1 ≤ l ∧ l ≤ 7) ∧ 0 ≤ s ∧ s ≤ 4
  · rw [bidV_yes hq] at hb
    have h2 : ((b - 3) / 5 + 1 == l) = true := by simp; omega
    have h3 : ((b - 3) % 5 == s) = true := by simp; omega
    rw [h2, h3] at h
    cases h
  · rw [bidV_no hq] at hb; omega
theorem bid_none {l s : Int} (h : ∀ j, 3 ≤ j → j < 38 → bidV l s ≠ j) : bidV l s = -1 := by
  by_cases hq : (1 ≤ l ∧ l ≤ 7) ∧ 0 ≤ s ∧ s ≤ 4
  · exact absurd (bidV_yes hq) (h _ (by omega) (by omega))
  · exact bidV_no hq

theorem take_slotC {P : Program} {ops : Array Oper} {Q : Exit → Act → World → Prop} {md : Region.Mode} {S : World → Prop} {i : Nat} {oi : Oper} {d : Option Tmp} {v : Value} {fuel : Nat} {listed : Array Bool} {a : Act} {w : World} (hi : ops[i]? = some oi) (hd : oi.dst = d)
    (hs : Region.noSelect ops = true) (hf : Region.free md ops listed i = true) (hr : (Region.ready md ops listed).contains i = true)
    (hQ : ∀ c a w, Q (.panic c) (a.put d v) w → Q (.panic c) a w) (hy : YieldsIf P ops S oi v a) (hS : S w)
    (h : wpAnyH P md ops Q S fuel (listed.setIfInBounds i true) (a.put d v) w) : wpAnyH P md ops Q S (fuel + 1) listed a w := by
  subst hd
  exact wpAnyH_take hi hs hf hr hQ hy hS h

set_option maxHeartbeats 1600000 in
theorem impl_BidOf (l s : Int) (w : World) : Calls Tryd.prog 42 #[.int .i64 l, .int .i64 s] w fun e w' => e = .returned (.int .i64 (bidV l s)) ∧ Chg w w' 0 0 := by
  have hg := heap_alloc_new w (.cells #[.int .i64 0, .int .i64 0] 99)
  have HG := Lib.hid (setRow_heap _ _ _ (propA l s) _ _ hg)
  have HC := Lib.hid ((Chg.of_alloc w (.cells #[.int .i64 0, .int .i64 0] 99) 0 0).rowC (Nat.le_refl _) (propA l s))
  go_enter Tryd.func42, Tryd.ntmps42
  go_wp2_with (refine wpList_store_row rfl 99 _ _ rfl w.heap.size (propA l s) rfl rfl 99 _ hg (prop_info _ _) rfl (prop_cells _ _) ?_)
  go_loopw [6] (fun i wr => ∃ b : Int, 3 ≤ b ∧ b ≤ 38 ∧ i = .int .i64 b ∧ Hid (wr.heap[w.heap.size]? = some (.cells (propA l s) 99 (0, 0))) ∧ Hid (Chg w wr 0 0) ∧ Hid (∀ j, 3 ≤ j → j < b → bidV l s ≠ j)) (fun i _ => (38 - intOf i).toNat)
  case atStart => exact ⟨3, by omega, by omega, rfl, HG, HC, fun j h1 h2 => by omega⟩
  case round =>
    obtain ⟨b, hb0, hb1, rfl, hR, hC, hN⟩ := hrel
    by_cases hlt : b ≤ 37
    · have heq := prop_eq ((b - 3) / 5 + 1) ((b - 3) % 5) l s
      have hgl := Lib.hid (lt_of_block hR.out)
      clear hg HG HC
      cases hm : ((b - 3) / 5 + 1 == l && (b - 3) % 5 == s)
      · have hN' : Hid (∀ j, 3 ≤ j → j < b + 1 → bidV l s ≠ j) := fun j h1 h2 => by
          by_cases hj : j < b
          · exact hN.out j h1 hj
          · obtain rfl : j = b := by omega
            exact bid_not_prop hb0 hlt hm
        rw [hm] at heq
        clear hm hN
        go_wp2_with fail
        refine wp_region_held_drew (S := fun V => V.heap[w.heap.size]? = some (.cells (propA l s) 99 (0, 0))) (by kernel_rfl) hR.out (fun hHeld => ?_)
        refine take_slotC (i := 0) (d := some 14) (v := .int .i64 b) rfl (by kernel_rfl) (by kernel_rfl) (by kernel_rfl) (by kernel_rfl) (fun _ _ _ h => h) (.inl ⟨by kernel_rfl, fun V hV => by go_simp⟩) hHeld ?_
        try simp only [Act.put, List.setIfInBounds_toArray, List.set_cons_zero, List.set_cons_succ]
        refine take_slotC (i := 2) (d := some 16) (v := .agg (propA l s)) rfl (by kernel_rfl) (by kernel_rfl) (by kernel_rfl) (by kernel_rfl) (fun _ _ _ h => h) (.inl ⟨by kernel_rfl, fun V hV => prop_exec l s w.heap.size V rfl rfl hV⟩) hHeld ?_
        try simp only [Act.put, List.setIfInBounds_toArray, List.set_cons_zero, List.set_cons_succ]
        refine wpAnyH_ready (rs := [1]) (by kernel_rfl) (by simp) (AllReadyH.cons (i := 1) rfl (fun K' hK' => ?_) AllReadyH.nil)
        go_simp
        refine (propertiesOf b _ hb0 hlt).mono ?_
        rintro e w2 ⟨rfl, c2⟩
        have hR2 := Lib.hid ((c2.block _ hgl.out (.inr (Nat.zero_le _))).trans hR.out)
        have hC2 := Lib.hid (hC.out.trans ((Chg.drewN wr 1 0 0).trans c2))
        refine hK'.out _ _ hR2.out (fun hHeld => ?_)
        clear hK'
        try simp only [Act.put, List.setIfInBounds_toArray, List.set_cons_zero, List.set_cons_succ]
        refine wpAnyH_ready (rs := [3]) (by kernel_rfl) (by simp) (AllReadyH.cons (i := 3) rfl (fun K' hK' => ?_) AllReadyH.nil)
        go_simp
        refine hK'.out _ _ hR2.out (fun hHeld => ?_)
        clear hK'
        refine wpAnyH_done (by kernel_rfl) ?_ _
        go_wp2
        go_roundw
        case rel => exact ⟨b + 1, by omega, by omega, by go_num, hR2, hC2, hN'⟩
        case measure => simp [intOf]; omega
      · have hr := Lib.hid (bid_of_prop hb0 hlt hm)
        rw [hm] at heq
        clear hm hN
        go_wp2_with fail
        refine wp_region_held_drew (S := fun V => V.heap[w.heap.size]? = some (.cells (propA l s) 99 (0, 0))) (by kernel_rfl) hR.out (fun hHeld => ?_)
        refine take_slotC (i := 0) (d := some 14) (v := .int .i64 b) rfl (by kernel_rfl) (by kernel_rfl) (by kernel_rfl) (by kernel_rfl) (fun _ _ _ h => h) (.inl ⟨by kernel_rfl, fun V hV => by go_simp⟩) hHeld ?_
        try simp only [Act.put, List.setIfInBounds_toArray, List.set_cons_zero, List.set_cons_succ]
        refine take_slotC (i := 2) (d := some 16) (v := .agg (propA l s)) rfl (by kernel_rfl) (by kernel_rfl) (by kernel_rfl) (by kernel_rfl) (fun _ _ _ h => h) (.inl ⟨by kernel_rfl, fun V hV => prop_exec l s w.heap.size V rfl rfl hV⟩) hHeld ?_
        try simp only [Act.put, List.setIfInBounds_toArray, List.set_cons_zero, List.set_cons_succ]
        refine wpAnyH_ready (rs := [1]) (by kernel_rfl) (by simp) (AllReadyH.cons (i := 1) rfl (fun K' hK' => ?_) AllReadyH.nil)
        go_simp
        refine (propertiesOf b _ hb0 hlt).mono ?_
        rintro e w2 ⟨rfl, c2⟩
        have hR2 := Lib.hid ((c2.block _ hgl.out (.inr (Nat.zero_le _))).trans hR.out)
        have hC2 := Lib.hid (hC.out.trans ((Chg.drewN wr 1 0 0).trans c2))
        refine hK'.out _ _ hR2.out (fun hHeld => ?_)
        clear hK'
        try simp only [Act.put, List.setIfInBounds_toArray, List.set_cons_zero, List.set_cons_succ]
        refine wpAnyH_ready (rs := [3]) (by kernel_rfl) (by simp) (AllReadyH.cons (i := 3) rfl (fun K' hK' => ?_) AllReadyH.nil)
        go_simp
        refine hK'.out _ _ hR2.out (fun hHeld => ?_)
        clear hK'
        refine wpAnyH_done (by kernel_rfl) ?_ _
        go_wp2
        go_ret
        exact ⟨ret_int hr.out.symm, hC2.out⟩
    · obtain rfl : b = 38 := by omega
      have hr : Hid (bidV l s = -1) := bid_none hN.out
      go_wp2
      go_ret
      exact ⟨ret_int hr.out.symm, hC.out⟩



end Go.Proofs.YtnkbcmkngghnoaaDoor.Lib1
