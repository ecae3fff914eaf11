/- Chapter 6: calls and bids as numbers; contracts of the functions that only compute with numbers (program and model), and the exact laws that compare them. -/
import Derived.Test.YteglffbeldlibaaBase1
import Derived.Laws.StructEq
import Derived.Laws.Tables
import Derived.Lib.MinMax
import Derived.ChangeKeysEq
import Derived.Deep.RegionWith
import Derived.BigQuiet
import Derived.Deep.RegionHeld3
namespace Go.Proofs.Yteglffbeldlibaa.Lib1
open Go.RowKit
set_option maxRecDepth 100000

/-! ### Numbers of calls -/
def levV (c : Int) : Int := if inB c 3 37 then (c - 3) / 5 + 1 else 0
def strV (c : Int) : Int := if inB c 3 37 then (c - 3) % 5 else -1
def bidV (l s : Int) : Int := if inB l 1 7 && inB s 0 4 then 3 + 5 * (l - 1) + s else -1
def lowB (c s : Int) : Int := max (c + 1) 3 + (s - (max (c + 1) 3 - 3)) % 5
def lowV (c s : Int) : Int := if inB c 0 37 && inB s 0 4 then if lowB c s ≤ 37 then lowB c s else -1 else -1
def jumpV (b c : Int) : Bool := inB b 3 37 && inB c 3 37 && decide (b < c) && decide (lowV b (strV c) < c)
theorem levV_yes {c : Int} (h : 3 ≤ c ∧ c ≤ 37) : levV c = (c - 3) / 5 + 1 := by simp [levV, inB_true h]
theorem levV_no {c : Int} (h : ¬ (3 ≤ c ∧ c ≤ 37)) : levV c = 0 := by simp [levV, inB_false h]
theorem strV_yes {c : Int} (h : 3 ≤ c ∧ c ≤ 37) : strV c = (c - 3) % 5 := by simp [strV, inB_true h]
theorem strV_no {c : Int} (h : ¬ (3 ≤ c ∧ c ≤ 37)) : strV c = -1 := by simp [strV, inB_false h]
theorem bidV_yes {l s : Int} (h : (1 ≤ l ∧ l ≤ 7) ∧ 0 ≤ s ∧ s ≤ 4) : bidV l s = 3 + 5 * (l - 1) + s := by simp [bidV, inB_true h.1, inB_true h.2]
theorem bidV_no {l s : Int} (h : ¬ ((1 ≤ l ∧ l ≤ 7) ∧ 0 ≤ s ∧ s ≤ 4)) : bidV l s = -1 := by
  unfold bidV
  by_cases h1 : 1 ≤ l ∧ l ≤ 7
  · rw [inB_true h1, inB_false (fun h2 => h ⟨h1, h2⟩)]; rfl
  · rw [inB_false h1]; rfl
theorem lowV_yes {c s : Int} (h : (0 ≤ c ∧ c ≤ 37) ∧ 0 ≤ s ∧ s ≤ 4) (hl : lowB c s ≤ 37) : lowV c s = lowB c s := by simp [lowV, inB_true h.1, inB_true h.2, hl]
theorem lowV_end {c s : Int} (hl : ¬ lowB c s ≤ 37) : lowV c s = -1 := by unfold lowV; rw [if_neg hl]; split <;> rfl
theorem lowV_no {c s : Int} (h : ¬ ((0 ≤ c ∧ c ≤ 37) ∧ 0 ≤ s ∧ s ≤ 4)) : lowV c s = -1 := by
  unfold lowV
  by_cases h1 : 0 ≤ c ∧ c ≤ 37
  · rw [inB_true h1, inB_false (fun h2 => h ⟨h1, h2⟩)]; rfl
  · rw [inB_false h1]; rfl
/-- What the lowest bid is: a bid of the strain above c, and none between. -/
theorem lowB_is {c s b : Int} (hs : 0 ≤ s ∧ s ≤ 4) (h1 : c < b) (h3 : 3 ≤ b) (hb : (b - 3) % 5 = s) (hn : ∀ j, c < j → 3 ≤ j → j < b → (j - 3) % 5 ≠ s) : lowB c s = b := by
  unfold lowB
  have hm : max (c + 1) 3 ≤ b := by omega
  generalize hM : max (c + 1) 3 = m at hm
  have h5 : m + (s - (m - 3)) % 5 ≤ b := by omega
  rcases Int.lt_or_eq_of_le h5 with h | h
  · exact absurd (by omega) (hn (m + (s - (m - 3)) % 5) (by omega) (by omega) h)
  · exact h
theorem lowB_gt {c s b : Int} (hs : 0 ≤ s ∧ s ≤ 4) (hn : ∀ j, c < j → 3 ≤ j → j ≤ b → (j - 3) % 5 ≠ s) : b < lowB c s := by
  unfold lowB
  generalize hM : max (c + 1) 3 = m
  by_cases h : b < m + (s - (m - 3)) % 5
  · exact h
  · exact absurd (by omega) (hn (m + (s - (m - 3)) % 5) (by omega) (by omega) (by omega))

/-! ### The model -/







/-! ### The program -/


/-- A bid's level and strain, as the program's array. -/
def propA (l s : Int) : Array Value := #[.int .i64 l, .int .i64 s]

theorem prop_cells (l s : Int) : (propA l s).all (·.oneCell') = true := by kernel_rfl



theorem Chg.rowC {w w1 : World} (h : Chg w w1 0 0) {g : Nat} (hg : w.heap.size ≤ g) (cs : Array Value) : Chg w (w1.setRow g cs) 0 0 :=
  ⟨h.os, h.tape, h.output, by rw [setRow_size]; exact h.size, fun k hk hq => (setRow_other w1 g k cs (by omega)).trans (h.block k hk hq)⟩



theorem part0 (a b : Int) (w : World) : (part 2 (propA a b) (0 * 1)).run Try.prog w = .ok (.int .i64 a) w := by kernel_rfl
theorem part1 (a b : Int) (w : World) : (part 2 (propA a b) (1 * 1)).run Try.prog w = .ok (.int .i64 b) w := by kernel_rfl
theorem cells_int : Try.prog.cellsOf 2 = 1 := by kernel_rfl



theorem bid_of_prop {l s b : Int} (h0 : 3 ≤ b) (h1 : b ≤ 37) (h : ((b - 3) / 5 + 1 == l && (b - 3) % 5 == s) = true) : bidV l s = b := by
  simp only [Bool.and_eq_true, beq_iff_eq] at h
  rw [bidV_yes (by omega)]; omega
theorem bid_not_prop {l s b : Int} (h0 : 3 ≤ b) (h1 : b ≤ 37) (h : ((b - 3) / 5 + 1 == l && (b - 3) % 5 == s) = false) : bidV l s ≠ b := by
  intro hb
  by_cases hq : (1 ≤ l ∧ l ≤ 7) ∧ 0 ≤ s ∧ s ≤ 4
  · rw [bidV_yes hq] at hb
    have h2 : ((b - 3) / 5 + 1 == l) = true := by simp; omega
    have h3 : ((b - 3) % 5 == s) = true := by simp; omega
    rw [h2, h3] at h
    cases h
  · rw [bidV_no hq] at hb; omega
theorem bid_none {l s : Int} (h : ∀ j, 3 ≤ j → j < 38 → bidV l s ≠ j) : bidV l s = -1 := by
  by_cases hq : (1 ≤ l ∧ l ≤ 7) ∧ 0 ≤ s ∧ s ≤ 4
  · exact absurd (bidV_yes hq) (h _ (by omega) (by omega))
  · exact bidV_no hq

theorem take_slotC {P : Program} {ops : Array Oper} {Q : Exit → Act → World → Prop} {md : Region.Mode} {S : World → Prop} {i : Nat} {oi : Oper} {d : Option Tmp} {v : Value} {fuel : Nat} {listed : Array Bool} {a : Act} {w : World} (hi : ops[i]? = some oi) (hd : oi.dst = d)
    (hs : Region.noSelect ops = true) (hf : Region.free md ops listed i = true) (hr : (Region.ready md ops listed).contains i = true)
    (hQ : ∀ c a w, Q (.panic c) (a.put d v) w → Q (.panic c) a w) (hy : YieldsIf P ops S oi v a) (hS : S w)
    (h : wpAnyH P md ops Q S fuel (listed.setIfInBounds i true) (a.put d v) w) : wpAnyH P md ops Q S (fuel + 1) listed a w := by
  subst hd
  exact wpAnyH_take hi hs hf hr hQ hy hS h




end Go.Proofs.Yteglffbeldlibaa.Lib1
