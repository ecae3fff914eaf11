/- Contracts of the functions of chapter 1 that only compute with numbers (program and model): what each returns at every argument; none touches memory. Words on memory for slices of int64: what a slice reads as, which blocks it owns, what a call may have written. No function of the program. Contracts of the functions of chapter 1 that make a card's text (program and model), and the law that compares them. Contracts of the functions of chapter 1 that read a card's text (program and model), and the law that compares them. Contracts of the laws' own helpers over slices of int64: a copy, a comparison, marks that are written and read again. Contracts of IsHand (program and model), and the law that compares them. Words for slices of int64 that a call makes itself by append: what they own, one element appended, what a function hands back. No function of the program. -/
import Derived.Test.YteglffbeldlibaaRows
import Derived.WalkKit
import Derived.ProofKit
import Derived.OpenShut
import Derived.Below
import Derived.Deep.Draws
import Derived.Laws.Rows
import Derived.Laws.OwnMore
import Derived.Lib.Hide
import Derived.RegionTactic
import Derived.ChangeAlike
import Derived.Deep.RegionWith
import Derived.Deep.QuietTactic
import Derived.BigQuiet
import Derived.Outline
import Derived.Laws.BytesArg
import Derived.IntWalk
import Derived.LoopTactic
import Derived.Lib.Bytealg
import Derived.Laws.Externs
import Derived.Deep.OwnRows
import Derived.OwnWalk
import Derived.Laws.AppendOwn
namespace Go.Proofs.Yteglffbeldlibaa.Lib1

section
open Go.RowKit
set_option maxRecDepth 100000

theorem bounds {a : Int} (h : (Lit.int .i64 a).wf = true) : -9223372036854775808 ≤ a ∧ a ≤ 9223372036854775807 := by
  have := bounds_i64 h; omega

def inB (n low high : Int) : Bool := decide (low ≤ n) && decide (n ≤ high)
theorem inB_true {n low high : Int} (h : low ≤ n ∧ n ≤ high) : inB n low high = true := by simp [inB, h]
theorem inB_false {n low high : Int} (h : ¬ (low ≤ n ∧ n ≤ high)) : inB n low high = false := by
  simp only [inB, Bool.and_eq_false_iff, decide_eq_false_iff_not]; omega

/-- spec.l01In -/
theorem l01In (n low high : Int) (w : World) :
    Calls Try.prog 90 #[.int .i64 n, .int .i64 low, .int .i64 high] w fun e w' => e = .returned (.bool (inB n low high)) ∧ w = w' := by
  by_cases h1 : low ≤ n
  · by_cases h2 : n ≤ high
    · rw [inB_true ⟨h1, h2⟩]
      go_enter Try.func90, Try.ntmps90
      go_wp2
      go_ret
      exact ⟨rfl, rfl⟩
    · rw [inB_false (by omega)]
      go_enter Try.func90, Try.ntmps90
      go_wp2
      go_ret
      exact ⟨rfl, rfl⟩
  · rw [inB_false (by omega)]
    go_enter Try.func90, Try.ntmps90
    go_wp2
    go_ret
    exact ⟨rfl, rfl⟩

/-- spec.l01Card -/
theorem l01Card (n : Int) (w : World) :
    Calls Try.prog 88 #[.int .i64 n] w fun e w' => e = .returned (.bool (inB n 0 51)) ∧ w = w' := by
  go_enter Try.func88, Try.ntmps88
  go_wp2_with (go_at_call 90; refine (l01In _ _ _ _).mono ?_; rintro e w' ⟨rfl, rfl⟩)
  go_ret
  exact ⟨rfl, rfl⟩

/-- (impl.playingCard).isCard -/
theorem isCard (n : Int) (w : World) :
    Calls Try.prog 131 #[.int .i64 n] w fun e w' => e = .returned (.bool (inB n 0 51)) ∧ w = w' := by
  by_cases h1 : 0 ≤ n
  · by_cases h2 : n < 52
    · rw [inB_true (by omega)]
      go_enter Try.func131, Try.ntmps131
      go_wp2
      go_ret
      exact ⟨rfl, rfl⟩
    · rw [inB_false (by omega)]
      go_enter Try.func131, Try.ntmps131
      go_wp2
      go_ret
      exact ⟨rfl, rfl⟩
  · rw [inB_false (by omega)]
    go_enter Try.func131, Try.ntmps131
    go_wp2
    go_ret
    exact ⟨rfl, rfl⟩

theorem suit (n : Int) (w : World) (h0 : 0 ≤ n) (h1 : n ≤ 51) :
    Calls Try.prog 151 #[.int .i64 n] w fun e w' => e = .returned (.int .i64 (n / 13)) ∧ w = w' := by
  go_enter Try.func151, Try.ntmps151
  go_wp2
  go_ret
  exact ⟨rfl, rfl⟩

theorem rank (n : Int) (w : World) (h0 : 0 ≤ n) (h1 : n ≤ 51) :
    Calls Try.prog 161 #[.int .i64 n] w fun e w' => e = .returned (.int .i64 (n % 13)) ∧ w = w' := by
  go_enter Try.func161, Try.ntmps161
  go_wp2
  go_ret
  exact ⟨rfl, rfl⟩

/-! ### CardOf, SuitOf, RankOf: program and model -/
def cardV (s r : Int) : Int := if inB s 0 3 && inB r 0 12 then 13 * s + r else -1
theorem cardV_yes {s r : Int} (h : (0 ≤ s ∧ s ≤ 3) ∧ 0 ≤ r ∧ r ≤ 12) : cardV s r = 13 * s + r := by simp [cardV, inB_true h.1, inB_true h.2]
theorem cardV_no {s r : Int} (h : ¬ ((0 ≤ s ∧ s ≤ 3) ∧ 0 ≤ r ∧ r ≤ 12)) : cardV s r = -1 := by
  unfold cardV
  by_cases hs : 0 ≤ s ∧ s ≤ 3
  · rw [inB_true hs, inB_false (fun hr => h ⟨hs, hr⟩)]; rfl
  · rw [inB_false hs]; rfl
def suitV (c : Int) : Int := if inB c 0 51 then c / 13 else -1
def rankV (c : Int) : Int := if inB c 0 51 then c % 13 else -1
theorem suitV_yes {c : Int} (h : 0 ≤ c ∧ c ≤ 51) : suitV c = c / 13 := by simp [suitV, inB_true h]
theorem suitV_no {c : Int} (h : ¬ (0 ≤ c ∧ c ≤ 51)) : suitV c = -1 := by simp [suitV, inB_false h]
theorem rankV_yes {c : Int} (h : 0 ≤ c ∧ c ≤ 51) : rankV c = c % 13 := by simp [rankV, inB_true h]
theorem rankV_no {c : Int} (h : ¬ (0 ≤ c ∧ c ≤ 51)) : rankV c = -1 := by simp [rankV, inB_false h]

theorem spec_CardOf (s r : Int) (w : World) :
    Calls Try.prog 142 #[.int .i64 s, .int .i64 r] w fun e w' => e = .returned (.int .i64 (cardV s r)) ∧ w = w' := by
  by_cases hs : 0 ≤ s ∧ s ≤ 3
  · have b1 := inB_true hs
    by_cases hr : 0 ≤ r ∧ r ≤ 12
    · have b2 := inB_true hr
      rw [cardV_yes ⟨hs, hr⟩]
      obtain ⟨s0, s1⟩ := hs
      obtain ⟨r0, r1⟩ := hr
      go_enter Try.func142, Try.ntmps142
      go_wp2_with (go_at_call 90; refine (l01In _ _ _ _).mono ?_; rintro e w' ⟨rfl, rfl⟩)
      go_ret
      exact ⟨rfl, rfl⟩
    · have b2 := inB_false hr
      rw [cardV_no (fun h => hr h.2)]
      clear hs hr
      go_enter Try.func142, Try.ntmps142
      go_wp2_with (go_at_call 90; refine (l01In _ _ _ _).mono ?_; rintro e w' ⟨rfl, rfl⟩)
      go_ret
      exact ⟨rfl, rfl⟩
  · have b1 := inB_false hs
    rw [cardV_no (fun h => hs h.1)]
    clear hs
    go_enter Try.func142, Try.ntmps142
    go_wp2_with (go_at_call 90; refine (l01In _ _ _ _).mono ?_; rintro e w' ⟨rfl, rfl⟩)
    go_ret
    exact ⟨rfl, rfl⟩

theorem impl_CardOf (s r : Int) (w : World) :
    Calls Try.prog 127 #[.int .i64 s, .int .i64 r] w fun e w' => e = .returned (.int .i64 (cardV s r)) ∧ w = w' := by
  by_cases h1 : s < 0
  · rw [cardV_no (by omega)]
    go_enter Try.func127, Try.ntmps127
    go_wp2
    go_ret
    exact ⟨rfl, rfl⟩
  by_cases h2 : 4 ≤ s
  · rw [cardV_no (by omega)]
    go_enter Try.func127, Try.ntmps127
    go_wp2
    go_ret
    exact ⟨rfl, rfl⟩
  by_cases h3 : r < 0
  · rw [cardV_no (by omega)]
    go_enter Try.func127, Try.ntmps127
    go_wp2
    go_ret
    exact ⟨rfl, rfl⟩
  by_cases h4 : 13 ≤ r
  · rw [cardV_no (by omega)]
    go_enter Try.func127, Try.ntmps127
    go_wp2
    go_ret
    exact ⟨rfl, rfl⟩
  rw [cardV_yes (by omega)]
  go_enter Try.func127, Try.ntmps127
  go_wp2
  go_ret
  exact ⟨rfl, rfl⟩



theorem impl_SuitOf (c : Int) (w : World) :
    Calls Try.prog 120 #[.int .i64 c] w fun e w' => e = .returned (.int .i64 (suitV c)) ∧ w = w' := by
  by_cases h : 0 ≤ c ∧ c ≤ 51
  · have b := inB_true h
    rw [suitV_yes h]
    obtain ⟨c0, c1⟩ := h
    go_enter Try.func120, Try.ntmps120
    go_wp2_with (first | (go_at_call 131; refine (isCard _ _).mono ?_; rintro e w' ⟨rfl, rfl⟩) | (go_at_call 151; refine (suit _ _ (by omega) (by omega)).mono ?_; rintro e w' ⟨rfl, rfl⟩))
    go_ret
    exact ⟨rfl, rfl⟩
  · have b := inB_false h
    rw [suitV_no h]
    clear h
    go_enter Try.func120, Try.ntmps120
    go_wp2_with (go_at_call 131; refine (isCard _ _).mono ?_; rintro e w' ⟨rfl, rfl⟩)
    go_ret
    exact ⟨rfl, rfl⟩


/-! ### The laws over numbers alone -/



end

section
open Go.RowKit
set_option maxRecDepth 100000

/-- w' is w with new blocks, and with writes to blocks of [lo, hi) alone. -/
structure Chg (w w' : World) (lo hi : Nat) : Prop where
  os : w'.os = w.os
  tape : w'.tape = w.tape
  output : w'.output = w.output
  size : w.heap.size ≤ w'.heap.size
  block : ∀ k, k < w.heap.size → (k < lo ∨ hi ≤ k) → w'.heap[k]? = w.heap[k]?

theorem Chg.refl (w : World) (lo hi : Nat) : Chg w w lo hi := ⟨rfl, rfl, rfl, Nat.le_refl _, fun _ _ _ => rfl⟩
theorem Chg.of_below {w w' : World} (h : Below w.heap.size w w') (lo hi : Nat) : Chg w w' lo hi := ⟨h.os, h.tape, h.output, h.size, fun k hk _ => h.block k hk⟩
theorem Chg.to_below {w w' : World} (h : Chg w w' 0 0) : Below w.heap.size w w' := ⟨h.os, h.tape, h.output, h.size, fun k hk => h.block k hk (.inr (Nat.zero_le _))⟩
theorem Chg.drewN (w : World) (q lo hi : Nat) : Chg w (w.drewN q) lo hi := ⟨rfl, rfl, rfl, Nat.le_refl _, fun _ _ _ => rfl⟩
theorem Chg.alloc_drew (w : World) (o : Obj) (lo hi : Nat) : Chg w (w.alloc o).drew lo hi := Chg.of_below ((Below.refl _ _).alloc (Nat.le_refl _) o).drew _ _
theorem Chg.more {w w' : World} {lo hi lo' hi' : Nat} (h : Chg w w' lo hi) (h1 : lo' ≤ lo) (h2 : hi ≤ hi') : Chg w w' lo' hi' :=
  ⟨h.os, h.tape, h.output, h.size, fun k hk ho => h.block k hk (by omega)⟩
theorem Chg.any {w w' : World} (h : Chg w w' 0 0) (lo hi : Nat) : Chg w w' lo hi :=
  ⟨h.os, h.tape, h.output, h.size, fun k hk _ => h.block k hk (.inr (Nat.zero_le _))⟩
theorem Chg.trans {a b c : World} {lo hi : Nat} (h : Chg a b lo hi) (k : Chg b c lo hi) : Chg a c lo hi :=
  ⟨k.os.trans h.os, k.tape.trans h.tape, k.output.trans h.output, Nat.le_trans h.size k.size, fun i hi ho => (k.block i (Nat.lt_of_lt_of_le hi h.size) ho).trans (h.block i hi ho)⟩
/-- What is written lies above B: below B nothing has turned. -/
theorem Chg.above {B : Nat} {a w w' : World} {lo hi : Nat} (h : Below B a w) (k : Chg w w' lo hi) (hB : B ≤ w.heap.size) (hl : B ≤ lo ∨ hi = 0) : Below B a w' :=
  h.trans ⟨k.os, k.tape, k.output, k.size, fun i hi => k.block i (by omega) (by omega)⟩

theorem lt_of_cell {w : World} {a : Addr} {v : Value} (h : w.cell? a = some v) : a.block < w.heap.size := by
  rcases Nat.lt_or_ge a.block w.heap.size with hlt | hge
  · exact hlt
  · unfold World.cell? at h
    rw [Array.getElem?_eq_none hge] at h
    simp at h
theorem lt_of_block {w : World} {g : Nat} {o : Obj} (h : w.heap[g]? = some o) : g < w.heap.size := by
  rcases Nat.lt_or_ge g w.heap.size with hlt | hge
  · exact hlt
  · rw [Array.getElem?_eq_none hge] at h; cases h

/-- The slice value with address A and length n reads as zs, and lies in a block of [lo, hi). -/
def Rd (w : World) (lo hi : Nat) (A : Option Addr) (n : Nat) (zs : List Int) : Prop :=
  zs.length = n ∧ (0 < n → ∃ b off, A = some ⟨b, off, none⟩ ∧ lo ≤ b ∧ b < hi ∧ ∀ j, j < n → w.cell? ⟨b, off + j, none⟩ = some (.int .i64 (zs.getD j 0)))
/-- .. and begins an unfrozen block of its own. -/
def Own (w : World) (lo hi : Nat) (A : Option Addr) (n : Nat) (zs : List Int) : Prop :=
  zs.length = n ∧ (0 < n → ∃ b cs, A = some ⟨b, 0, none⟩ ∧ lo ≤ b ∧ b < hi ∧ w.heap[b]? = some (.cells cs 2 (0, 0)) ∧ ∀ j, j < n → cs[j]? = some (.int .i64 (zs.getD j 0)))

section
variable {w w' : World} {lo hi : Nat} {A : Option Addr} {n : Nat} {zs : List Int}
theorem Rd.none_ : Rd w lo hi A 0 [] := ⟨rfl, fun h => absurd h (by omega)⟩
theorem Own.none_ : Own w lo hi A 0 [] := ⟨rfl, fun h => absurd h (by omega)⟩
theorem Own.rd (h : Own w lo hi A n zs) : Rd w lo hi A n zs :=
  ⟨h.1, fun hn => by
    obtain ⟨b, cs, e, h1, h2, hb, hc⟩ := h.2 hn
    exact ⟨b, 0, e, h1, h2, fun j hj => by rw [Nat.zero_add, cell_of_row w b j cs _ _ hb]; exact hc j hj⟩⟩
theorem Rd.chg {l h : Nat} (r : Rd w lo hi A n zs) (c : Chg w w' l h) (hd : hi ≤ l ∨ h ≤ lo) : Rd w' lo hi A n zs :=
  ⟨r.1, fun hn => by
    obtain ⟨b, off, e, h1, h2, hc⟩ := r.2 hn
    exact ⟨b, off, e, h1, h2, fun j hj => by
      rw [World.cell?_of_block (c.block b (lt_of_cell (hc j hj)) (by omega))]; exact hc j hj⟩⟩
theorem Own.chg {l h : Nat} (r : Own w lo hi A n zs) (c : Chg w w' l h) (hd : hi ≤ l ∨ h ≤ lo) : Own w' lo hi A n zs :=
  ⟨r.1, fun hn => by
    obtain ⟨b, cs, e, h1, h2, hb, hc⟩ := r.2 hn
    exact ⟨b, cs, e, h1, h2, (c.block b (lt_of_block hb) (by omega)).trans hb, hc⟩⟩
theorem Rd.still (r : Rd w lo hi A n zs) (c : Chg w w' 0 0) : Rd w' lo hi A n zs := r.chg c (.inr (Nat.zero_le _))
theorem Own.still (r : Own w lo hi A n zs) (c : Chg w w' 0 0) : Own w' lo hi A n zs := r.chg c (.inr (Nat.zero_le _))
theorem Rd.more {lo' hi' : Nat} (r : Rd w lo hi A n zs) (h1 : lo' ≤ lo) (h2 : hi ≤ hi') : Rd w lo' hi' A n zs :=
  ⟨r.1, fun hn => by obtain ⟨b, off, e, h3, h4, hc⟩ := r.2 hn; exact ⟨b, off, e, by omega, by omega, hc⟩⟩
theorem Own.more {lo' hi' : Nat} (r : Own w lo hi A n zs) (h1 : lo' ≤ lo) (h2 : hi ≤ hi') : Own w lo' hi' A n zs :=
  ⟨r.1, fun hn => by obtain ⟨b, cs, e, h3, h4, hb, hc⟩ := r.2 hn; exact ⟨b, cs, e, by omega, by omega, hb, hc⟩⟩
theorem Rd.drewN (r : Rd w lo hi A n zs) (q : Nat) : Rd (w.drewN q) lo hi A n zs := r.still (Chg.drewN _ _ _ _)
theorem Rd.all (r : Rd w lo hi A n zs) : Rd w 0 w.heap.size A n zs :=
  ⟨r.1, fun hn => by
    obtain ⟨b, off, e, h3, h4, hc⟩ := r.2 hn
    exact ⟨b, off, e, Nat.zero_le _, lt_of_cell (hc 0 hn), hc⟩⟩
end

/-- A row of the call's own, out of the append laws. -/
theorem Own.of_row {w : World} {base : Nat} {A : Option Addr} {n c : Nat} {zs : List Int} (h : w.ownsRow base 2 1 (.slice A n c) n (zs.map (Value.int .i64))) : Own w base w.heap.size A n zs := by
  refine ⟨by have := h.1; simpa using this, fun hn => ?_⟩
  rcases h.2 with ⟨_, h0⟩ | ⟨g, cap, cur, hv, hg, hh, _, _, _, ht⟩
  · omega
  · have hA : A = some ⟨g, 0, none⟩ := by injection hv
    refine ⟨g, cur, hA, hg, lt_of_block hh, hh, fun j hj => ?_⟩
    have hl : zs.length = n := by have := h.1; simpa using this
    have e1 : (zs.map (Value.int .i64))[j]? = some (.int .i64 (zs.getD j 0)) := by
      simp [List.getD, List.getElem?_eq_getElem (show j < zs.length by omega)]
    rw [← ht, List.getElem?_take, if_pos (by omega)] at e1
    simpa using e1

/-- What a law of an argument says of it (the frame's own word 'IsRow'), in these words. -/
theorem Rd.of_arg {w : World} {a : Option Addr} {len cap : Nat} {zs : List Int}
    (h : (a = none ∧ len = 0 ∧ cap = 0 ∧ zs = []) ∨ ∃ x, a = some x ∧ len ≤ cap ∧ cap ≤ maxLen ∧ zs.length = cap ∧ (∀ i, i < zs.length → w.cell? (x.add i) = some (.int .i64 (zs.getD i 0))) ∧ ∀ n ∈ zs, (Lit.int .i64 n).wf = true) :
    Rd w 0 w.heap.size a len (zs.take len) := by
  rcases h with ⟨rfl, rfl, rfl, rfl⟩ | ⟨x, rfl, hl, _, hz, hc, _⟩
  · exact Rd.none_
  · refine ⟨by simp; omega, fun hn => ?_⟩
    obtain ⟨b, off, spot⟩ := x
    have h0 := hc 0 (by omega)
    have hspot : spot = none := by simpa [Addr.add] using World.cell?_spot h0
    subst hspot
    have hplain : ∀ j, (⟨b, off, none⟩ : Addr).add j = ⟨b, off + j, none⟩ := fun j => by unfold Addr.add; split <;> simp_all
    refine ⟨b, off, rfl, Nat.zero_le _, ?_, fun j hj => ?_⟩
    · have := lt_of_cell h0; rwa [hplain] at this
    · have := hc j (by omega)
      rw [hplain] at this
      rw [this]
      simp [List.getD, hj]
theorem wf_of_arg {w : World} {a : Option Addr} {len cap : Nat} {zs : List Int}
    (h : (a = none ∧ len = 0 ∧ cap = 0 ∧ zs = []) ∨ ∃ x, a = some x ∧ len ≤ cap ∧ cap ≤ maxLen ∧ zs.length = cap ∧ (∀ i, i < zs.length → w.cell? (x.add i) = some (.int .i64 (zs.getD i 0))) ∧ ∀ n ∈ zs, (Lit.int .i64 n).wf = true) :
    ∀ n ∈ zs.take len, (Lit.int .i64 n).wf = true := by
  rcases h with ⟨rfl, rfl, rfl, rfl⟩ | ⟨x, rfl, hl, _, hz, hc, hw⟩
  · simp
  · exact fun n hn => hw n (List.mem_of_mem_take hn)

theorem cells_info : (Try.prog.info? 2).map (fun i => (i.zero, i.size, i.bytes)) = some (some (.int .i64 0), 1, 8) := by kernel_rfl

/-! ### Small things for walks -/
theorem ret_int {k : IntKind} {a b : Int} (h : a = b) : Ending.returned (.int k a) = .returned (.int k b) := by rw [h]
theorem ret_bool {a b : Bool} (h : a = b) : Ending.returned (.bool a) = .returned (.bool b) := by rw [h]
theorem ret_str {a b : ByteArray} (h : a = b) : Ending.returned (.string a) = .returned (.string b) := by rw [h]
theorem grown_trans {a b c : World} (h : Grown a b) (k : Grown b c) : Grown a c :=
  ⟨World.keptBut_trans h.1 k.1, fun x => (k.2.1 x).trans (h.2.1 x), Nat.le_trans h.2.2 k.2.2⟩
theorem quiet_eq {P : Program} {f : FuncId} {args : Array Value} {w : World} {n : Nat} {v : Value}
    (h : Calls P f args (w.drewN n) fun e w' => e = .returned v ∧ w.drewN n = w') : Calls P f args (w.drewN n) fun e w'' => e = .returned v ∧ ∃ m, w'' = w.drewN m :=
  h.mono fun _ _ ⟨he, hm⟩ => ⟨he, n, hm.symm⟩
theorem quiet_add {P : Program} {f : FuncId} {args : Array Value} {w : World} {a n : Nat} {v : Value}
    (h : Calls P f args (w.drewN (a + n)) fun e w' => e = .returned v ∧ w.drewN (a + n) = w') :
    Calls P f args (w.drewN (a + n)) fun e w'' => e = .returned v ∧ ∃ m, w'' = w.drewN (a + m) :=
  h.mono fun _ _ ⟨he, hm⟩ => ⟨he, n, hm.symm⟩
end

section
open Go.RowKit
set_option maxRecDepth 100000

/-- The letters of suits and ranks, as numbers. -/
def suitL : List UInt8 := [67, 68, 72, 83]
def rankL : List UInt8 := [50, 51, 52, 53, 54, 55, 56, 57, 84, 74, 81, 75, 65]
def sufV (k : Nat) : Int := ((suitL.getD k 0).toNat : Int)
def rafV (k : Nat) : Int := ((rankL.getD k 0).toNat : Int)
theorem suf_eq : ∀ (k : Nat) (h : k < (ByteArray.mk #[67, 68, 72, 83]).size), (((ByteArray.mk #[67, 68, 72, 83])[k]'h).toNat : Int) = sufV k
  | 0, _ => rfl | 1, _ => rfl | 2, _ => rfl | 3, _ => rfl
  | n + 4, h => by simp [ByteArray.size] at h; omega
theorem raf_eq : ∀ (k : Nat) (h : k < (ByteArray.mk #[50, 51, 52, 53, 54, 55, 56, 57, 84, 74, 81, 75, 65]).size), (((ByteArray.mk #[50, 51, 52, 53, 54, 55, 56, 57, 84, 74, 81, 75, 65])[k]'h).toNat : Int) = rafV k
  | 0, _ => rfl | 1, _ => rfl | 2, _ => rfl | 3, _ => rfl | 4, _ => rfl | 5, _ => rfl | 6, _ => rfl | 7, _ => rfl | 8, _ => rfl | 9, _ => rfl | 10, _ => rfl | 11, _ => rfl | 12, _ => rfl
  | n + 13, h => by simp [ByteArray.size] at h; omega
/-- The text of a card. -/
def textV (n : Int) : ByteArray := strOfNums [sufV (n / 13).toNat, rafV (n % 13).toNat]
def cardTextV (n : Int) : ByteArray := if inB n 0 51 then textV n else ⟨#[]⟩
theorem cardTextV_yes {c : Int} (h : 0 ≤ c ∧ c ≤ 51) : cardTextV c = textV c := by simp [cardTextV, inB_true h]
theorem cardTextV_no {c : Int} (h : ¬ (0 ≤ c ∧ c ≤ 51)) : cardTextV c = ⟨#[]⟩ := by simp [cardTextV, inB_false h]

/-- The two bytes of a new block, as a string. -/
theorem conv2 (w : World) (x y : Int) :
    (convert 22 9 (.slice (some ⟨w.heap.size, 0, none⟩) 2 2)).run Try.prog (w.alloc (.cells #[.int .u8 x, .int .u8 y] 5)).drew = .ok (.string (strOfNums [x, y])) (w.alloc (.cells #[.int .u8 x, .int .u8 y] 5)).drew := by
  refine run_convert_bytes_arg _ 22 5 Try.underlying22 Try.underlying5 _ 0 2 2 [x, y] rfl ?_ 9 Try.underlying9
  intro i hi
  match i, hi with
  | 0, _ => simp
  | 1, _ => simp

theorem text (n : Int) (w : World) (h0 : 0 ≤ n) (h1 : n ≤ 51) :
    Calls Try.prog 132 #[.int .i64 n] w fun e w' => e = .returned (.string (textV n)) ∧ Grown w w' ∧ Chg w w' 0 0 := by
  have a0 : 0 ≤ n / 13 := by omega
  have a1 : n / 13 < 4 := by omega
  have b0 : 0 ≤ n % 13 := by omega
  have b1 : n % 13 < 13 := by omega
  have kc := conv2 w
  go_enter Try.func132, Try.ntmps132
  go_wp2
  go_region_with (first | (go_at_call 151; refine (suit _ _ (by omega) (by omega)).mono ?_; rintro e w' ⟨rfl, rfl⟩) | (go_at_call 161; refine (rank _ _ (by omega) (by omega)).mono ?_; rintro e w' ⟨rfl, rfl⟩))
  all_goals
    go_wp2
    go_ret
    refine ⟨ret_str (by unfold textV; rw [suf_eq, raf_eq]), by repeat (first | exact Grown.refl _ | apply Grown.drew | apply Grown.alloc), Chg.alloc_drew _ _ _ _⟩

theorem l01Suits (w : World) : Calls Try.prog 140 #[] w fun e w' => e = .returned (.string ⟨#[67, 68, 72, 83]⟩) ∧ w = w' := by
  go_enter Try.func140, Try.ntmps140
  go_wp2
  go_ret
  exact ⟨rfl, rfl⟩
theorem l01Ranks (w : World) : Calls Try.prog 141 #[] w fun e w' => e = .returned (.string ⟨#[50, 51, 52, 53, 54, 55, 56, 57, 84, 74, 81, 75, 65]⟩) ∧ w = w' := by
  go_enter Try.func141, Try.ntmps141
  go_wp2
  go_ret
  exact ⟨rfl, rfl⟩

theorem impl_CardText (n : Int) (w : World) :
    Calls Try.prog 86 #[.int .i64 n] w fun e w' => e = .returned (.string (cardTextV n)) ∧ Grown w w' ∧ Chg w w' 0 0 := by
  by_cases h : 0 ≤ n ∧ n ≤ 51
  · have b := inB_true h
    rw [cardTextV_yes h]
    obtain ⟨h0, h1⟩ := h
    go_enter Try.func86, Try.ntmps86
    go_wp2_with (first | (go_at_call 131; refine (isCard _ _).mono ?_; rintro e w' ⟨rfl, rfl⟩) | (go_at_call 132; refine (text _ _ (by omega) (by omega)).mono ?_; rintro e w' ⟨rfl, hg⟩))
    go_ret
    exact ⟨rfl, hg⟩
  · have b := inB_false h
    rw [cardTextV_no h]
    clear h
    go_enter Try.func86, Try.ntmps86
    go_wp2_with (go_at_call 131; refine (isCard _ _).mono ?_; rintro e w' ⟨rfl, rfl⟩)
    go_ret
    exact ⟨rfl, Grown.refl _, Chg.refl _ _ _⟩

theorem spec_CardText (n : Int) (w : World) :
    Calls Try.prog 112 #[.int .i64 n] w fun e w' => e = .returned (.string (cardTextV n)) ∧ Grown w w' ∧ Chg w w' 0 0 := by
  by_cases h : 0 ≤ n ∧ n ≤ 51
  · have b := inB_true h
    rw [cardTextV_yes h]
    obtain ⟨h0, h1⟩ := h
    have a0 : 0 ≤ n / 13 := by omega
    have a1 : n / 13 < 4 := by omega
    have b0 : 0 ≤ n % 13 := by omega
    have b1 : n % 13 < 13 := by omega
    have kc := conv2 w
    have q1 : IntKind.i64.wrap (n.tdiv 13) = n / 13 := by rw [Int.tdiv_eq_ediv_of_nonneg h0]; exact IntWalk.i64_in _ (by omega)
    have q2 : n.tmod 13 = n % 13 := Int.tmod_eq_emod_of_nonneg h0
    go_enter Try.func112, Try.ntmps112
    go_wp2_with (go_at_call 88; refine (l01Card _ _).mono ?_; rintro e w' ⟨rfl, rfl⟩)
    go_region_with (first | (go_at_call 140; refine (l01Suits _).mono ?_; rintro e w' ⟨rfl, rfl⟩) | (go_at_call 141; refine (l01Ranks _).mono ?_; rintro e w' ⟨rfl, rfl⟩))
    all_goals
      go_wp2
      go_ret
      refine ⟨ret_str (by unfold textV; rw [suf_eq, raf_eq]), by repeat (first | exact Grown.refl _ | apply Grown.drew | apply Grown.alloc), Chg.alloc_drew _ _ _ _⟩
  · have b := inB_false h
    rw [cardTextV_no h]
    clear h
    go_enter Try.func112, Try.ntmps112
    go_wp2_with (go_at_call 88; refine (l01Card _ _).mono ?_; rintro e w' ⟨rfl, rfl⟩)
    go_ret
    exact ⟨rfl, Grown.refl _, Chg.refl _ _ _⟩


end

section
open Go.RowKit
set_option maxRecDepth 100000


theorem idx_found : ∀ (l : List UInt8) (c : UInt8) (k : Nat), k < l.length → (∀ j, j < k → l.getD j 0 ≠ c) → l.getD k 0 = c → Lib.indexByte l c = (k : Int)
  | [], _, k, h, _, _ => by simp at h
  | b :: l, c, 0, _, _, h2 => by simp at h2; simp [Lib.indexByte, h2]
  | b :: l, c, k + 1, h, h1, h2 => by
    have ih := idx_found l c k (by simpa using h) (fun j hj => by simpa using h1 (j + 1) (by omega)) (by simpa using h2)
    have hb : b ≠ c := by simpa using h1 0 (by omega)
    unfold Lib.indexByte
    rw [ih]
    have e1 : (b == c) = false := by simpa using hb
    have e2 : (((k : Nat) : Int) == -1) = false := by rw [beq_eq_false_iff_ne]; omega
    simp [e1, e2]
theorem idx_none : ∀ (l : List UInt8) (c : UInt8), (∀ j, j < l.length → l.getD j 0 ≠ c) → Lib.indexByte l c = -1
  | [], _, _ => rfl
  | b :: l, c, h => by
    have ih := idx_none l c (fun j hj => by simpa using h (j + 1) (by simpa using hj))
    have hb : b ≠ c := by simpa using h 0 (by simp)
    have e1 : (b == c) = false := by simpa using hb
    unfold Lib.indexByte
    simp [ih, e1]
theorem byte_getD (s : ByteArray) (k : Nat) (h : k < s.size) : s.data.toList.getD k 0 = s[k] := by
  have hl : k < s.data.toList.length := by simpa using h
  simp [List.getD, List.getElem?_eq_getElem hl]
  rfl

/-- spec.l01Find -/
theorem l01Find (s : ByteArray) (c : UInt8) (w : World) (hs : s.size ≤ 9223372036854775806) :
    Calls Try.prog 143 #[.string s, .int .u8 (c.toNat : Int)] w fun e w' => e = .returned (.int .i64 (Lib.indexByte s.data.toList c)) ∧ w = w' := by
  go_enter Try.func143, Try.ntmps143
  go_wp2
  go_loop [5] (fun i => ∃ k : Nat, k ≤ s.size ∧ i = .int .i64 k ∧ Hid (∀ j, j < k → s.data.toList.getD j 0 ≠ c)) (fun i => s.size - (intOf i).toNat)
  case atStart => exact ⟨0, Nat.zero_le _, rfl, fun j hj => by omega⟩
  case round =>
    obtain ⟨k, hk, rfl, hn⟩ := hrel
    by_cases hlt : k < s.size
    · by_cases he : s[k] = c
      · have hf : Hid (Lib.indexByte s.data.toList c = (k : Int)) := idx_found _ _ k (by simpa using hlt) hn.out (by rw [byte_getD s k hlt, he])
        have ht : (((s[k].toNat : Nat) : Int) == (c.toNat : Int)) = true := by rw [he]; simp
        clear he
        go_wp2
        go_ret
        exact ⟨ret_int hf.out.symm, rfl⟩
      · have ht : (((s[k].toNat : Nat) : Int) == (c.toNat : Int)) = false := by
          rw [beq_eq_false_iff_ne]; intro e; apply he; exact UInt8.toNat_inj.1 (by omega)
        have hn' : Hid (∀ j, j < k + 1 → s.data.toList.getD j 0 ≠ c) := by
          intro j hj
          by_cases e : j < k
          · exact hn.out j e
          · obtain rfl : j = k := by omega
            rw [byte_getD s j hlt]; exact he
        clear he hn
        go_wp2
        go_round
        case rel => exact ⟨k + 1, by omega, by go_num, hn'⟩
        case measure => simp [intOf]; omega
    · have hf : Hid (Lib.indexByte s.data.toList c = -1) := idx_none _ _ (fun j hj => hn.out j (by simp at hj; omega))
      clear hn
      go_wp2
      go_ret
      exact ⟨ret_int hf.out.symm, rfl⟩

/-- strings.IndexByte -/
theorem IndexByteString (s : ByteArray) (c : UInt8) (w : World) :
    (callFunc 155 #[.string s, .int .u8 (c.toNat : Int)]).run Try.prog w = .ok (.value (.int .i64 (Lib.indexByte s.data.toList c))) w := by
  rw [run_callFunc_extern Try.func155 (by kernel_rfl) (by kernel_rfl) (by kernel_rfl) (e := Extern.BytealgIndexByte.indexByte) (by kernel_rfl), Lib.run_indexByteString]
  simp [Result.andThen]
theorem IndexByte (s : ByteArray) (c : UInt8) (w : World) :
    Calls Try.prog 76 #[.string s, .int .u8 (c.toNat : Int)] w fun e w' => e = .returned (.int .i64 (Lib.indexByte s.data.toList c)) ∧ w = w' := by
  have hx := IndexByteString s c w
  go_enter Try.func76, Try.ntmps76
  go_wp2
  go_ret
  exact ⟨rfl, rfl⟩

/-- What ReadCard finds: the card, or -1. -/
def rdC (s : ByteArray) : Int := if s.size = 2 then cardV (Lib.indexByte suitL (s.data.toList.getD 0 0)) (Lib.indexByte rankL (s.data.toList.getD 1 0)) else -1
def rdV (s : ByteArray) : Int := if 0 ≤ rdC s then rdC s else 0
def rdB (s : ByteArray) : Bool := decide (0 ≤ rdC s)
theorem cardV_range (a b : Int) : cardV a b = -1 ∨ 0 ≤ cardV a b ∧ cardV a b ≤ 51 := by
  by_cases h : (0 ≤ a ∧ a ≤ 3) ∧ 0 ≤ b ∧ b ≤ 12
  · right; rw [cardV_yes h]; omega
  · left; exact cardV_no h
theorem rdC_range (s : ByteArray) : rdC s = -1 ∨ 0 ≤ rdC s ∧ rdC s ≤ 51 := by
  unfold rdC; split
  · exact cardV_range _ _
  · left; rfl
theorem impl_CardOf_at (a b v : Int) (h : cardV a b = v) (w : World) :
    Calls Try.prog 127 #[.int .i64 a, .int .i64 b] w fun e w' => e = .returned (.int .i64 v) ∧ w = w' := by
  subst h; exact impl_CardOf a b w
theorem spec_CardOf_at (a b v : Int) (h : cardV a b = v) (w : World) :
    Calls Try.prog 142 #[.int .i64 a, .int .i64 b] w fun e w' => e = .returned (.int .i64 v) ∧ w = w' := by
  subst h; exact spec_CardOf a b w
def svI (s : ByteArray) (k : Nat) : Int := if k = 0 then -1 else Lib.indexByte suitL (s.data.toList.getD 0 0)
def rvI (s : ByteArray) (k : Nat) : Int := if k ≤ 1 then -1 else Lib.indexByte rankL (s.data.toList.getD 1 0)
theorem idxS (s : ByteArray) (h : 0 < s.size) : Lib.indexByte (ByteArray.mk #[67, 68, 72, 83]).data.toList s[0] = svI s 1 := by
  rw [← byte_getD s 0 h]; rfl
theorem idxR (s : ByteArray) (h : 1 < s.size) : Lib.indexByte (ByteArray.mk #[50, 51, 52, 53, 54, 55, 56, 57, 84, 74, 81, 75, 65]).data.toList s[1] = rvI s 2 := by
  rw [← byte_getD s 1 h]; rfl
theorem IndexByte_at (s : ByteArray) (c : UInt8) (v : Int) (h : Lib.indexByte s.data.toList c = v) (w : World) :
    Calls Try.prog 76 #[.string s, .int .u8 (c.toNat : Int)] w fun e w' => e = .returned (.int .i64 v) ∧ w = w' := by
  subst h; exact IndexByte s c w
theorem l01Find_at (s : ByteArray) (c : UInt8) (v : Int) (hs : s.size ≤ 9223372036854775806) (h : Lib.indexByte s.data.toList c = v) (w : World) :
    Calls Try.prog 143 #[.string s, .int .u8 (c.toNat : Int)] w fun e w' => e = .returned (.int .i64 v) ∧ w = w' := by
  subst h; exact l01Find s c w hs
theorem rdC_two (s : ByteArray) (h : s.size = 2) : cardV (svI s 2) (rvI s 2) = rdC s := by simp [rdC, h, svI, rvI]
theorem rdC_not (s : ByteArray) (h : s.size ≠ 2) : rdC s = -1 := by simp [rdC, h]

theorem ret_read {a b : Int × Bool} (h : a = b) : Ending.returned (.tuple #[.int .i64 a.1, .bool a.2]) = .returned (.tuple #[.int .i64 b.1, .bool b.2]) := by rw [h]
theorem rd_no {s : ByteArray} (h : rdC s = -1) : ((0 : Int), false) = (rdV s, rdB s) := by simp [rdV, rdB, h]
theorem rd_yes {s : ByteArray} (h : 0 ≤ rdC s) : (rdC s, true) = (rdV s, rdB s) := by simp [rdV, rdB, h]

theorem impl_ReadCard (s : ByteArray) (w : World) (hs : s.size ≤ 1048576) :
    Calls Try.prog 80 #[.string s] w fun e w' => e = .returned (.tuple #[.int .i64 (rdV s), .bool (rdB s)]) ∧ w = w' := by
  go_enter Try.func80, Try.ntmps80
  go_wp2
  go_step3
  go_wp2
  go_step3
  go_wp2
  go_loop [4, 5, 10] (fun a b i => ∃ k : Nat, k ≤ 2 ∧ k ≤ s.size ∧ i = .int .i64 k ∧ a = .int .i64 (svI s k) ∧ b = .int .i64 (rvI s k)) (fun _ _ i => s.size - (intOf i).toNat)
  case atStart => exact ⟨0, by omega, by omega, rfl, rfl, rfl⟩
  case round =>
    obtain ⟨k, h2, hk, rfl, rfl, rfl⟩ := hrel
    by_cases hlt : k < s.size
    · by_cases e0 : k = 0
      · subst e0
        go_wp2_with (go_at_call 76; refine (IndexByte_at _ _ _ (idxS s hlt) _).mono ?_; rintro e w' ⟨rfl, rfl⟩)
        go_round
        case rel => exact ⟨1, by omega, by omega, rfl, rfl, rfl⟩
        case measure => simp [intOf]; omega
      · by_cases e1 : k = 1
        · subst e1
          clear e0
          go_wp2_with (go_at_call 76; refine (IndexByte_at _ _ _ (idxR s hlt) _).mono ?_; rintro e w' ⟨rfl, rfl⟩)
          go_round
          case rel => exact ⟨2, by omega, by omega, rfl, rfl, rfl⟩
          case measure => simp [intOf]; omega
        · obtain rfl : k = 2 := by omega
          clear e0 e1
          have hf : Hid (rdC s = -1) := rdC_not s (by omega)
          have hc : Hid (cardV (svI s 2) (-1) = -1) := cardV_no (by omega)
          go_wp2_with (go_at_call 127; refine (impl_CardOf_at _ _ _ hc.out _).mono ?_; rintro e w' ⟨rfl, rfl⟩)
          rw [Exit.noGoto_ret]
          go_ret2
          exact ⟨ret_read (rd_no hf.out), rfl⟩
    · obtain rfl : k = s.size := by omega
      by_cases h2' : s.size = 2
      · rcases rdC_range s with hm | ⟨hm0, hm1⟩
        · have hc : Hid (cardV (svI s s.size) (rvI s s.size) = -1) := by rw [h2', rdC_two s h2']; exact hm
          have hf : Hid (rdC s = -1) := hm
          clear hm h2'
          go_wp2_with (go_at_call 127; refine (impl_CardOf_at _ _ _ hc.out _).mono ?_; rintro e w' ⟨rfl, rfl⟩)
          first | rw [Exit.noGoto_ret] | skip
          go_ret2
          exact ⟨ret_read (rd_no hf.out), rfl⟩
        · have hc : Hid (cardV (svI s s.size) (rvI s s.size) = rdC s) := by rw [h2', rdC_two s h2']; rfl
          have hf : Hid (0 ≤ rdC s) := hm0
          have hlt0 : ¬ rdC s < 0 := by omega
          clear h2' hm0 hm1
          go_wp2_with (go_at_call 127; refine (impl_CardOf_at _ _ _ hc.out _).mono ?_; rintro e w' ⟨rfl, rfl⟩)
          first | rw [Exit.noGoto_ret] | skip
          go_ret2
          exact ⟨ret_read (rd_yes hf.out), rfl⟩
      · have hc : Hid (cardV (svI s s.size) (rvI s s.size) = -1) := by
          refine cardV_no ?_
          have : rvI s s.size = -1 := by unfold rvI; rw [if_pos (by omega)]
          omega
        have hf : Hid (rdC s = -1) := rdC_not s h2'
        clear h2'
        go_wp2_with (go_at_call 127; refine (impl_CardOf_at _ _ _ hc.out _).mono ?_; rintro e w' ⟨rfl, rfl⟩)
        first | rw [Exit.noGoto_ret] | skip
        go_ret2
        exact ⟨ret_read (rd_no hf.out), rfl⟩

theorem spec_ReadCard (s : ByteArray) (w : World) :
    Calls Try.prog 113 #[.string s] w fun e w' => e = .returned (.tuple #[.int .i64 (rdV s), .bool (rdB s)]) ∧ ∃ q, w' = w.drewN q := by
  by_cases h2 : s.size = 2
  · have hne : ((s.size : Int) != 2) = false := by simp [h2]
    have i0 : 0 < s.size := by omega
    have i1 : 1 < s.size := by omega
    have x0 : (0 : Int) < (s.size : Int) := by omega
    have x1 : (1 : Int) < (s.size : Int) := by omega
    have H2 : Hid (s.size = 2) := h2
    clear h2
    go_enter Try.func113, Try.ntmps113
    go_wp2
    go_quiet ((first | (go_at_call 140; exact quiet_eq (l01Suits _)) | (go_at_call 141; exact quiet_eq (l01Ranks _)) | (go_at_call 142; exact quiet_eq (spec_CardOf _ _ _)) | (go_at_call 143; exact quiet_eq (l01Find _ _ _ (by decide)))))
    generalize hv : cardV _ _ = v
    have hv2 : Hid (v = rdC s) := by
      rw [← hv, ← rdC_two s H2.out]
      show _ = cardV (svI s 1) (rvI s 2)
      rw [← idxS s i0, ← idxR s i1]
    clear hv
    by_cases hm : v < 0
    · have hf : Hid (rdC s = -1) := by
        rcases rdC_range s with h | h
        · exact h
        · have := hv2.out; exfalso; omega
      go_wp2
      go_ret2
      exact ⟨ret_read (rd_no hf.out), _, rfl⟩
    · have hf : Hid ((v, true) = (rdV s, rdB s)) := by
        have h := hv2.out
        show (v, true) = _
        rw [h]; exact rd_yes (by omega)
      go_wp2
      go_ret2
      exact ⟨ret_read hf.out, _, rfl⟩
  · have hne : ((s.size : Int) != 2) = true := by rw [bne_iff_ne]; omega
    have hf : Hid (rdC s = -1) := rdC_not s h2
    clear h2
    go_enter Try.func113, Try.ntmps113
    go_wp2
    go_ret2
    exact ⟨ret_read (rd_no hf.out), 0, rfl⟩

theorem grown_drewN (w : World) (q : Nat) : Grown w (w.drewN q) := by
  induction q with
  | zero => exact Grown.refl _
  | succ q ih => exact ih.drew


end

section
open Go.RowKit
set_option maxRecDepth 100000

theorem Own.of_alloc (w : World) (C : Array Value) (n : Nat) (zs : List Int) (hz : zs.length = n) (hC : ∀ j, j < n → C[j]? = some (.int .i64 (zs.getD j 0))) :
    Own (w.alloc (.cells C 2)) w.heap.size (w.alloc (.cells C 2)).heap.size (some ⟨w.heap.size, 0, none⟩) n zs :=
  ⟨hz, fun _ => ⟨w.heap.size, C, rfl, Nat.le_refl _, by simp, heap_alloc_new w _, hC⟩⟩
theorem Chg.of_alloc (w : World) (o : Obj) (lo hi : Nat) : Chg w (w.alloc o) lo hi := Chg.of_below ((Below.refl _ _).alloc (Nat.le_refl _) o) _ _

theorem set_prefix {C : Array Value} {n k : Nat} {f : Nat → Int} (h : ∀ j, j < k → C[j]? = some (.int .i64 (f j))) (hC : C.size = n) (hk : k < n) :
    ∀ j, j < k + 1 → (C.setIfInBounds k (.int .i64 (f k)))[j]? = some (.int .i64 (f j)) := by
  intro j hj
  rw [Array.getElem?_setIfInBounds]
  by_cases e : k = j
  · subst e; simp [hC, hk]
  · rw [if_neg e]; exact h j (by omega)

set_option maxHeartbeats 400000 in
/-- laws.toInt64S -/
theorem toInt64S (A : Option Addr) (n c : Nat) (zs : List Int) (lo hi : Nat) (w : World) (h : Rd w lo hi A n zs) (hn : n ≤ 1048576) :
    Calls Try.prog 104 #[.slice A n c] w fun e w' => e = .returned (.slice (some ⟨w.heap.size, 0, none⟩) n n) ∧ Own w' w.heap.size w'.heap.size (some ⟨w.heap.size, 0, none⟩) n zs ∧ Chg w w' 0 0 := by
  have hmk := fun W => run_make_row' (P := Try.prog) 27 2 (.int .i64 0) 8 Try.underlying27 cells_info rfl .i64 .i64 n (by omega) (by omega) W
  go_enter Try.func104, Try.ntmps104
  go_wp2
  clear hmk
  go_loopw [4] (fun i wr => ∃ (k : Nat) (C : Array Value), k ≤ n ∧ i = .int .i64 k ∧ wr = w.alloc (.cells C 2) ∧ C.size = n ∧ ∀ j, j < k → C[j]? = some (.int .i64 (zs.getD j 0))) (fun i _ => n - (intOf i).toNat)
  case atStart => exact ⟨0, _, Nat.zero_le _, rfl, rfl, size_madeCells _ _, fun j hj => by omega⟩
  case round =>
    obtain ⟨k, C, hk, rfl, rfl, hC, hcs⟩ := hrel
    have HC := Lib.hid hcs
    have HS := Lib.hid hC
    by_cases hlt : k < n
    · obtain ⟨b, off, rfl, h1, h2, hc⟩ := h.2 (by omega)
      have hck : w.cell? ⟨b, off + k, none⟩ = some (.int .i64 (zs.getD k 0)) := hc k hlt
      have hb : b < w.heap.size := lt_of_cell hck
      have hbn : ¬ b = w.heap.size := by omega
      have hca : ∀ o, (w.alloc o).cell? ⟨b, off + k, none⟩ = some (.int .i64 (zs.getD k 0)) := fun o => by rw [World.cell?_of_block (Below.heap_alloc w o b hb)]; exact hck
      have hold : C[k]? = some (C[k]'(by omega)) := Array.getElem?_eq_getElem (by omega)
      generalize C[k]'(by omega) = u at hold
      have hkl : (k : Int) < (n : Int) := by omega
      clear hcs hC hc hck
      go_wp2
      go_roundw
      case rel => exact ⟨k + 1, _, by omega, by go_num, rfl, by simpa using HS.out, set_prefix HC.out HS.out hlt⟩
      case measure => simp [intOf]; omega
    · obtain rfl : k = n := by omega
      clear hcs hC
      go_wp2
      go_ret
      exact ⟨rfl, Own.of_alloc w C k zs h.1 HC.out, Chg.of_alloc _ _ _ _⟩

set_option maxHeartbeats 400000 in
/-- laws.eqInt64S of two slices that read alike -/
theorem eqInt64S (A B : Option Addr) (n m c d : Nat) (zs : List Int) (lo hi lo' hi' : Nat) (w : World) (h : Rd w lo hi A n zs) (h' : Rd w lo' hi' B m zs) (hn : n ≤ 1048576) :
    Calls Try.prog 47 #[.slice A n c, .slice B m d] w fun e w' => e = .returned (.bool true) ∧ Chg w w' 0 0 := by
  obtain rfl : m = n := by rw [← h.1, ← h'.1]
  go_enter Try.func47, Try.ntmps47
  go_wp2
  go_loopw [5] (fun i wr => ∃ k q : Nat, k ≤ m ∧ i = .int .i64 k ∧ wr = w.drewN q) (fun i _ => m - (intOf i).toNat)
  case atStart => exact ⟨0, 0, Nat.zero_le _, rfl, rfl⟩
  case round =>
    obtain ⟨k, q, hk, rfl, rfl⟩ := hrel
    by_cases hlt : k < m
    · obtain ⟨b, off, rfl, _, _, hc⟩ := h.2 (by omega)
      obtain ⟨b', off', rfl, _, _, hc'⟩ := h'.2 (by omega)
      have hck := hc k hlt
      have hck' := hc' k hlt
      generalize zs.getD k 0 = z at hck hck'
      have hkl : (k : Int) < (m : Int) := by omega
      clear hc hc'
      go_wp2
      go_quiet (fail)
      go_wp2
      go_roundw
      case rel => exact ⟨k + 1, _, by omega, by go_num, rfl⟩
      case measure => simp [intOf]; omega
    · go_wp2
      go_ret
      exact ⟨rfl, Chg.drewN _ _ _ _⟩

/-- The numbers s, s + 1, .. -/
def marks (s n : Nat) : List Int := (List.range n).map fun i => ((s + i : Nat) : Int)

set_option maxHeartbeats 400000 in
/-- laws.heldInt64S of a slice that holds k, k + 1, .. -/
theorem heldInt64S (A : Option Addr) (n c s : Nat) (lo hi : Nat) (w : World) (h : Rd w lo hi A n (marks s n)) (hn : n ≤ 1048576) (hs : s ≤ 1048576) :
    Calls Try.prog 50 #[.slice A n c, .int .i64 (s : Int)] w fun e w' => e = .returned (.int .i64 ((s + n : Nat) : Int)) ∧ w = w' := by
  go_enter Try.func50, Try.ntmps50
  go_wp2
  go_loop [1, 5] (fun m i => ∃ k : Nat, k ≤ n ∧ i = .int .i64 k ∧ m = .int .i64 ((s + k : Nat) : Int)) (fun _ i => n - (intOf i).toNat)
  case atStart => exact ⟨0, Nat.zero_le _, rfl, rfl⟩
  case round =>
    obtain ⟨k, hk, rfl, rfl⟩ := hrel
    by_cases hlt : k < n
    · obtain ⟨b, off, rfl, _, _, hc⟩ := h.2 (by omega)
      have hck := hc k hlt
      have e : ((marks s n).getD k 0) = ((s + k : Nat) : Int) := by simp [marks, List.getD, hlt]
      rw [e] at hck
      have hkl : (k : Int) < (n : Int) := by omega
      clear hc e
      go_wp2
      go_round
      case rel => exact ⟨k + 1, by omega, by go_num, by go_num⟩
      case measure => simp [intOf]; omega
    · obtain rfl : k = n := by omega
      go_wp2
      go_ret
      exact ⟨rfl, rfl⟩

theorem marks_length (s n : Nat) : (marks s n).length = n := by simp [marks]
/-- The first k numbers are marked. -/
def marked (s k : Nat) (zs : List Int) : List Int := marks s k ++ zs.drop k
theorem marked_length (s k : Nat) (zs : List Int) (h : k ≤ zs.length) : (marked s k zs).length = zs.length := by simp [marked, marks]; omega
theorem marked_getD (s k j : Nat) (zs : List Int) : (marked s k zs).getD j 0 = if j < k then ((s + j : Nat) : Int) else zs.getD j 0 := by
  unfold marked marks
  by_cases h : j < k
  · rw [if_pos h]
    simp only [List.getD, List.getElem?_append, List.length_map, List.length_range, if_pos h]
    simp [h]
  · rw [if_neg h]
    simp only [List.getD, List.getElem?_append, List.length_map, List.length_range, if_neg h, List.getElem?_drop]
    rw [show k + (j - k) = j by omega]
theorem marked_all (s : Nat) (zs : List Int) : marked s zs.length zs = marks s zs.length := by simp [marked]

/-- One cell of an owned slice is written. -/
theorem Own.store {w : World} {lo hi b n k : Nat} {zs zs' : List Int} {z : Int} (h : Own w lo hi (some ⟨b, 0, none⟩) n zs) (hk : k < n) (hz : zs'.length = n) (hg : ∀ j, j < n → zs'.getD j 0 = if j = k then z else zs.getD j 0) :
    Own (w.setCell ⟨b, k, none⟩ (.int .i64 z)) lo hi (some ⟨b, 0, none⟩) n zs' := by
  refine ⟨hz, fun hn => ?_⟩
  obtain ⟨b', cs, e, h1, h2, hb, hc⟩ := h.2 hn
  obtain rfl : b = b' := by injection e with e; injection e
  refine ⟨b, cs.setIfInBounds k (.int .i64 z), rfl, h1, h2, by simp [World.setCell, Array.getElem?_modify, hb], fun j hj => ?_⟩
  rw [Array.getElem?_setIfInBounds, hg j hj]
  by_cases ek : k = j
  · subst ek
    have := Array.getElem?_eq_some_iff.1 (hc k hk)
    simp [this.1]
  · rw [if_neg ek, if_neg (by omega)]; exact hc j hj
theorem Chg.store {w w' : World} {lo hi b k : Nat} (h : Chg w w' lo hi) (h1 : lo ≤ b) (h2 : b < hi) (v : Value) : Chg w (w'.setCell ⟨b, k, none⟩ v) lo hi :=
  h.trans ⟨rfl, rfl, rfl, by simp [World.setCell], fun i _ ho => Below.heap_setCell _ _ _ _ (by show i ≠ b; omega)⟩
/-- A store into a block that is younger than w. -/
theorem Chg.cell {w wr : World} {g i : Nat} {v : Value} (h : Chg w wr 0 0) (hg : w.heap.size ≤ g) : Chg w (wr.setCell ⟨g, i, none⟩ v) 0 0 :=
  ⟨h.os, h.tape, h.output, by have := h.size; simpa [World.setCell] using this, fun _ hk hq => (Below.heap_setCell _ _ _ _ (by show _ ≠ g; omega)).trans (h.block _ hk hq)⟩

set_option maxHeartbeats 400000 in
/-- laws.markInt64S of a slice that owns its block -/
theorem markInt64S (A : Option Addr) (n c s : Nat) (zs : List Int) (lo hi : Nat) (w : World) (h : Own w lo hi A n zs) (hn : n ≤ 1048576) (hs : s ≤ 1048576) :
    Calls Try.prog 49 #[.slice A n c, .int .i64 (s : Int)] w fun e w' => e = .returned (.int .i64 ((s + n : Nat) : Int)) ∧ Own w' lo hi A n (marks s n) ∧ Chg w w' lo hi ∧ w.heap.size = w'.heap.size := by
  have hl := h.1
  go_enter Try.func49, Try.ntmps49
  go_wp2
  go_loopw [1, 5] (fun m i wr => ∃ k : Nat, k ≤ n ∧ i = .int .i64 k ∧ m = .int .i64 ((s + k : Nat) : Int) ∧ Own wr lo hi A n (marked s k zs) ∧ Chg w wr lo hi ∧ Hid (w.heap.size = wr.heap.size)) (fun _ i _ => n - (intOf i).toNat)
  case atStart => exact ⟨0, Nat.zero_le _, rfl, rfl, by simpa [marked, marks] using h, Chg.refl _ _ _, rfl⟩
  case round =>
    obtain ⟨k, hk, rfl, rfl, ho, hch, hsz⟩ := hrel
    by_cases hlt : k < n
    · obtain ⟨b, cs, rfl, h1, h2, hb, hc⟩ := ho.2 (by omega)
      have hcell : wr.cell? ⟨b, k, none⟩ = some (.int .i64 ((marked s k zs).getD k 0)) := by rw [cell_of_row wr b k cs _ _ hb]; exact hc k hlt
      have hfr : wr.frozen? ⟨b, k, none⟩ = false := by simp [World.frozen?, hb]
      generalize (marked s k zs).getD k 0 = z at hcell
      have hkl : (k : Int) < (n : Int) := by omega
      have ho' := ho.store (zs' := marked s (k + 1) zs) (z := ((s + k : Nat) : Int)) hlt (by rw [marked_length _ _ _ (by omega)]; exact hl) (fun j hj => by
        rw [marked_getD, marked_getD]
        by_cases e : j = k
        · subst e; simp
        · rw [if_neg e]; by_cases e2 : j < k
          · rw [if_pos e2, if_pos (by omega)]
          · rw [if_neg e2, if_neg (by omega)])
      have hch' := hch.store (k := k) h1 h2 (.int .i64 ((s + k : Nat) : Int))
      have hsz' : Hid (w.heap.size = (wr.setCell ⟨b, k, none⟩ (.int .i64 ((s + k : Nat) : Int))).heap.size) := by
        show _ = _; rw [hsz.out]; simp [World.setCell]
      clear hc hb ho hch hsz
      go_wp2
      go_roundw
      case rel => exact ⟨k + 1, by omega, by go_num, by go_num, ho', hch', hsz'⟩
      case measure => simp [intOf]; omega
    · obtain rfl : k = n := by omega
      have hf : Own wr lo hi A k (marks s k) := by
        have e := marked_all s zs
        rw [hl] at e
        rw [← e]; exact ho
      clear ho
      go_wp2
      go_ret
      exact ⟨rfl, hf, hch, hsz⟩

/-- The marks begin at 1. -/
theorem mark1 (A : Option Addr) (n c : Nat) (zs : List Int) (lo hi : Nat) (w : World) (h : Own w lo hi A n zs) (hn : n ≤ 1048576) :
    Calls Try.prog 49 #[.slice A n c, .int .i64 1] w fun e w' => e = .returned (.int .i64 (1 + (n : Int))) ∧ Own w' lo hi A n (marks 1 n) ∧ Chg w w' lo hi ∧ w.heap.size = w'.heap.size :=
  (markInt64S A n c 1 zs lo hi w h hn (by omega)).mono fun _ _ ⟨he, hr⟩ => ⟨by rw [he]; simp, hr⟩
theorem held1 (A : Option Addr) (n c : Nat) (lo hi : Nat) (w : World) (h : Rd w lo hi A n (marks 1 n)) (hn : n ≤ 1048576) :
    Calls Try.prog 50 #[.slice A n c, .int .i64 1] w fun e w' => e = .returned (.int .i64 (1 + (n : Int))) ∧ w = w' :=
  (heldInt64S A n c 1 lo hi w h hn (by omega)).mono fun _ _ ⟨he, hr⟩ => ⟨by rw [he]; simp, hr⟩
end

section
open Go.RowKit
set_option maxRecDepth 100000

/-- A list of cards, strictly increasing, up to place k. -/
def risingTo (zs : List Int) (k : Nat) : Prop := ∀ j, j < k → (0 ≤ zs.getD j 0 ∧ zs.getD j 0 ≤ 51) ∧ (0 < j → zs.getD (j - 1) 0 < zs.getD j 0)
instance (zs : List Int) (k : Nat) : Decidable (risingTo zs k) := by unfold risingTo; exact inferInstance
def risingB (zs : List Int) : Bool := decide (risingTo zs zs.length)
def handB (zs : List Int) : Bool := decide (zs.length ≤ 13) && risingB zs

theorem risingTo_succ {zs : List Int} {k : Nat} (h : risingTo zs k) (h1 : 0 ≤ zs.getD k 0 ∧ zs.getD k 0 ≤ 51) (h2 : 0 < k → zs.getD (k - 1) 0 < zs.getD k 0) : risingTo zs (k + 1) := by
  intro j hj
  by_cases e : j < k
  · exact h j e
  · obtain rfl : j = k := by omega
    exact ⟨h1, h2⟩
theorem risingB_no {zs : List Int} {k : Nat} (hk : k < zs.length) (h : ¬ ((0 ≤ zs.getD k 0 ∧ zs.getD k 0 ≤ 51) ∧ (0 < k → zs.getD (k - 1) 0 < zs.getD k 0))) : risingB zs = false := by
  unfold risingB
  rw [decide_eq_false_iff_not]
  exact fun r => h (r k hk)
theorem risingB_yes {zs : List Int} (h : risingTo zs zs.length) : risingB zs = true := by unfold risingB; rw [decide_eq_true_iff]; exact h

theorem drew_twice (w : World) (a b : Nat) : ∃ m, (w.drewN a).drewN b = w.drewN m := ⟨a + b, by simp [World.drewN, Nat.add_assoc]⟩
theorem Chg.of_drew {w w' : World} (h : ∃ q, w' = w.drewN q) (lo hi : Nat) : Chg w w' lo hi := by
  obtain ⟨q, rfl⟩ := h; exact Chg.drewN _ _ _ _
set_option maxHeartbeats 1000000 in
/-- spec.l01Rising: it draws, and turns nothing else -/
theorem l01RisingQ (A : Option Addr) (n c : Nat) (zs : List Int) (lo hi : Nat) (w : World) (h : Rd w lo hi A n zs) (hn : n ≤ 1048576) :
    Calls Try.prog 177 #[.slice A n c] w fun e w' => e = .returned (.bool (risingB zs)) ∧ ∃ q, w' = w.drewN q := by
  have hl := h.1
  have HL := Lib.hid hl
  clear hl
  go_enter Try.func177, Try.ntmps177
  go_wp2
  go_loopw [3] (fun i wr => ∃ k q : Nat, k ≤ n ∧ i = .int .i64 k ∧ wr = w.drewN q ∧ Hid (risingTo zs k)) (fun i _ => n - (intOf i).toNat)
  case atStart => exact ⟨0, 0, Nat.zero_le _, rfl, rfl, fun j hj => by omega⟩
  case round =>
    obtain ⟨k, q, hk, rfl, rfl, hr⟩ := hrel
    by_cases hlt : k < n
    · obtain ⟨b, off, rfl, _, _, hc⟩ := h.2 (by omega)
      have hck := hc k hlt
      have hkl : (k : Int) < (n : Int) := by omega
      have hkz : k < zs.length := by rw [HL.out]; exact hlt
      by_cases hin : 0 ≤ zs.getD k 0 ∧ zs.getD k 0 ≤ 51
      · have bz := inB_true hin
        by_cases h0 : k = 0
        · have hr' : Hid (risingTo zs (k + 1)) := risingTo_succ hr.out hin (fun h => by omega)
          subst h0
          rw [Nat.add_zero] at hck
          generalize zs.getD 0 0 = z at hck bz
          have hd : decide ((0 : Int) < ((0 : Nat) : Int)) = false := by simp
          clear hin hkz
          go_wp2
          go_quiet ((go_at_call 88; first | exact quiet_add (l01Card _ _) | exact quiet_eq (l01Card _ _)))
          go_wp2
          go_roundw
          case rel => exact ⟨1, _, by omega, rfl, rfl, hr'⟩
          case measure => simp [intOf]; omega
        · have hp := hc (k - 1) (by omega)
          have hp0 : (0 : Int) < (k : Int) := by omega
          have hp1 : 0 < k := by omega
          have e1 : ((k : Int) - 1).toNat = k - 1 := by omega
          have e2 : IntKind.i64.wrap ((k : Int) - 1) = (k : Int) - 1 := IntWalk.i64_in _ (by omega)
          have e3 : 0 ≤ (k : Int) - 1 := by omega
          have e4 : (k : Int) - 1 < (n : Int) := by omega
          by_cases hord : zs.getD (k - 1) 0 < zs.getD k 0
          · have hr' : Hid (risingTo zs (k + 1)) := risingTo_succ hr.out hin (fun _ => hord)
            generalize zs.getD (k - 1) 0 = y at hord hp
            generalize zs.getD k 0 = z at hck bz hord
            have ht : decide (z ≤ y) = false := by simp; omega
            clear hin hkz hc hr
            go_wp2
            go_quiet ((go_at_call 88; first | exact quiet_add (l01Card _ _) | exact quiet_eq (l01Card _ _)))
            go_wp2
            go_roundw
            case rel => exact ⟨k + 1, _, by omega, by go_num, rfl, hr'⟩
            case measure => simp [intOf]; omega
          · have hf : Hid (risingB zs = false) := risingB_no hkz (fun h => hord (h.2 (by omega)))
            generalize zs.getD (k - 1) 0 = y at hord hp
            generalize zs.getD k 0 = z at hck bz hord
            have ht : decide (z ≤ y) = true := by simp; omega
            clear hin hkz hc hr
            go_wp2
            go_quiet ((go_at_call 88; first | exact quiet_add (l01Card _ _) | exact quiet_eq (l01Card _ _)))
            go_wp2
            go_ret
            exact ⟨ret_bool hf.out.symm, by first | exact ⟨_, rfl⟩ | exact drew_twice _ _ _⟩
      · have bz := inB_false hin
        have hf : Hid (risingB zs = false) := risingB_no hkz (fun h => hin h.1)
        generalize zs.getD k 0 = z at hck bz
        clear hin hkz hc hr
        go_wp2
        go_quiet ((go_at_call 88; first | exact quiet_add (l01Card _ _) | exact quiet_eq (l01Card _ _)))
        go_wp2
        go_ret
        exact ⟨ret_bool hf.out.symm, by first | exact ⟨_, rfl⟩ | exact drew_twice _ _ _⟩
    · have hf : Hid (risingB zs = true) := risingB_yes (by rw [HL.out]; have : k = n := by omega
                                                           rw [← this]; exact hr.out)
      go_wp2
      go_ret
      exact ⟨ret_bool hf.out.symm, by first | exact ⟨_, rfl⟩ | exact drew_twice _ _ _⟩

theorem l01Rising (A : Option Addr) (n c : Nat) (zs : List Int) (lo hi : Nat) (w : World) (h : Rd w lo hi A n zs) (hn : n ≤ 1048576) :
    Calls Try.prog 177 #[.slice A n c] w fun e w' => e = .returned (.bool (risingB zs)) ∧ Chg w w' 0 0 :=
  (l01RisingQ A n c zs lo hi w h hn).mono fun _ _ ⟨he, hq⟩ => ⟨he, Chg.of_drew hq _ _⟩

theorem handB_long {zs : List Int} (h : ¬ zs.length ≤ 13) : handB zs = false := by simp [handB, h]
theorem handB_short {zs : List Int} (h : zs.length ≤ 13) : handB zs = risingB zs := by simp [handB, h]

/-- spec.IsHand -/
theorem spec_IsHandQ (A : Option Addr) (n c : Nat) (zs : List Int) (lo hi : Nat) (w : World) (h : Rd w lo hi A n zs) (hn : n ≤ 1048576) :
    Calls Try.prog 163 #[.slice A n c] w fun e w' => e = .returned (.bool (handB zs)) ∧ ∃ q, w' = w.drewN q := by
  have hl := h.1
  by_cases h13 : n ≤ 13
  · rw [handB_short (by omega)]
    have h13' : (n : Int) ≤ 13 := by omega
    clear hl
    go_enter Try.func163, Try.ntmps163
    go_wp2_with (go_at_call 177; refine (l01RisingQ _ _ _ zs lo hi _ h hn).mono ?_; rintro e w' ⟨rfl, hc⟩)
    go_ret
    exact ⟨rfl, hc⟩
  · rw [handB_long (by omega)]
    have h13' : ¬ (n : Int) ≤ 13 := by omega
    clear hl
    go_enter Try.func163, Try.ntmps163
    go_wp2
    go_ret
    exact ⟨rfl, 0, rfl⟩

theorem spec_IsHand (A : Option Addr) (n c : Nat) (zs : List Int) (lo hi : Nat) (w : World) (h : Rd w lo hi A n zs) (hn : n ≤ 1048576) :
    Calls Try.prog 163 #[.slice A n c] w fun e w' => e = .returned (.bool (handB zs)) ∧ Chg w w' 0 0 :=
  (spec_IsHandQ A n c zs lo hi w h hn).mono fun _ _ ⟨he, hq⟩ => ⟨he, Chg.of_drew hq _ _⟩

set_option maxHeartbeats 1000000 in
/-- impl.isCardList -/
theorem isCardList (A : Option Addr) (n c : Nat) (zs : List Int) (lo hi : Nat) (w : World) (h : Rd w lo hi A n zs) (hn : n ≤ 1048576) :
    Calls Try.prog 164 #[.slice A n c] w fun e w' => e = .returned (.bool (risingB zs)) ∧ w = w' := by
  have hl := h.1
  have HL := Lib.hid hl
  clear hl
  go_enter Try.func164, Try.ntmps164
  go_wp2
  go_loop [7] (fun i => ∃ k : Nat, k ≤ n ∧ i = .int .i64 k ∧ Hid (risingTo zs k)) (fun i => n - (intOf i).toNat)
  case atStart => exact ⟨0, Nat.zero_le _, rfl, fun j hj => by omega⟩
  case round =>
    obtain ⟨k, hk, rfl, hr⟩ := hrel
    by_cases hlt : k < n
    · obtain ⟨b, off, rfl, _, _, hc⟩ := h.2 (by omega)
      have hck := hc k hlt
      have hkl : (k : Int) < (n : Int) := by omega
      have hkz : k < zs.length := by rw [HL.out]; exact hlt
      by_cases hin : 0 ≤ zs.getD k 0 ∧ zs.getD k 0 ≤ 51
      · have bz := inB_true hin
        by_cases h0 : k = 0
        · have hr' : Hid (risingTo zs (k + 1)) := risingTo_succ hr.out hin (fun h => by omega)
          subst h0
          rw [Nat.add_zero] at hck
          generalize zs.getD 0 0 = z at hck bz
          clear hin hkz hc hr
          go_wp2_with (go_at_call 131; refine (isCard _ _).mono ?_; rintro e w' ⟨rfl, rfl⟩)
          go_round
          case rel => exact ⟨1, by omega, rfl, hr'⟩
          case measure => simp [intOf]; omega
        · have hp := hc (k - 1) (by omega)
          have hp0 : (0 : Int) < (k : Int) := by omega
          have hp1 : 0 < k := by omega
          have e1 : ((k : Int) - 1).toNat = k - 1 := by omega
          have e3 : 0 ≤ (k : Int) - 1 := by omega
          have e4 : (k : Int) - 1 < (n : Int) := by omega
          by_cases hord : zs.getD (k - 1) 0 < zs.getD k 0
          · have hr' : Hid (risingTo zs (k + 1)) := risingTo_succ hr.out hin (fun _ => hord)
            generalize zs.getD (k - 1) 0 = y at hord hp
            generalize zs.getD k 0 = z at hck bz hord
            have ht : ¬ z ≤ y := by omega
            clear hin hkz hc hr
            go_wp2_with (go_at_call 131; refine (isCard _ _).mono ?_; rintro e w' ⟨rfl, rfl⟩)
            go_round
            case rel => exact ⟨k + 1, by omega, by go_num, hr'⟩
            case measure => simp [intOf]; omega
          · have hf : Hid (risingB zs = false) := risingB_no hkz (fun h => hord (h.2 (by omega)))
            generalize zs.getD (k - 1) 0 = y at hord hp
            generalize zs.getD k 0 = z at hck bz hord
            have ht : z ≤ y := by omega
            clear hin hkz hc hr
            go_wp2_with (go_at_call 131; refine (isCard _ _).mono ?_; rintro e w' ⟨rfl, rfl⟩)
            go_ret
            exact ⟨ret_bool hf.out.symm, rfl⟩
      · have bz := inB_false hin
        have hf : Hid (risingB zs = false) := risingB_no hkz (fun h => hin h.1)
        generalize zs.getD k 0 = z at hck bz
        clear hin hkz hc hr
        go_wp2_with (go_at_call 131; refine (isCard _ _).mono ?_; rintro e w' ⟨rfl, rfl⟩)
        go_ret
        exact ⟨ret_bool hf.out.symm, rfl⟩
    · have hf : Hid (risingB zs = true) := risingB_yes (by rw [HL.out]; have : k = n := by omega
                                                           rw [← this]; exact hr.out)
      go_wp2
      go_ret
      exact ⟨ret_bool hf.out.symm, rfl⟩

/-- impl.IsHand -/
theorem impl_IsHand (A : Option Addr) (n c : Nat) (zs : List Int) (lo hi : Nat) (w : World) (h : Rd w lo hi A n zs) :
    Calls Try.prog 136 #[.slice A n c] w fun e w' => e = .returned (.bool (handB zs)) ∧ w = w' := by
  have hl := h.1
  by_cases h13 : n ≤ 13
  · have h13' : (n : Int) ≤ 13 := by omega
    rw [handB_short (by omega)]
    clear hl
    go_enter Try.func136, Try.ntmps136
    go_wp2_with (go_at_call 164; refine (isCardList _ _ _ zs lo hi _ h (by omega)).mono ?_; rintro e w' ⟨rfl, rfl⟩)
    go_ret
    exact ⟨rfl, rfl⟩
  · have h13' : ¬ (n : Int) ≤ 13 := by omega
    rw [handB_long (by omega)]
    clear hl
    go_enter Try.func136, Try.ntmps136
    go_wp2
    go_ret
    exact ⟨rfl, rfl⟩


end

section
open Go.RowKit
set_option maxRecDepth 100000

section
variable {w w' : World} {lo hi : Nat} {A : Option Addr} {n : Nat} {zs : List Int}
theorem Rd.below {B : Nat} (r : Rd w lo hi A n zs) (c : Below B w w') (hd : hi ≤ B) : Rd w' lo hi A n zs :=
  ⟨r.1, fun hn => by
    obtain ⟨b, off, e, h1, h2, hc⟩ := r.2 hn
    exact ⟨b, off, e, h1, h2, fun j hj => by
      rw [World.cell?_of_block (c.block b (by omega))]; exact hc j hj⟩⟩
end

/-- The slice value v is the call's own (blocks from base on) and holds zs. -/
def OwnV (w : World) (base : Nat) (v : Value) (zs : List Int) : Prop := w.ownsRow base 2 1 v zs.length (zs.map (Value.int .i64))

theorem OwnV.nil_ (w : World) (base : Nat) : OwnV w base (.slice none 0 0) [] := ⟨by simp, .inl ⟨rfl, rfl⟩⟩
theorem OwnV.made (w : World) {base : Nat} (hb : base ≤ w.heap.size) : OwnV (w.alloc (.cells #[] 2)) base (.slice (some ⟨w.heap.size, 0, none⟩) 0 0) [] :=
  ⟨by simp, .inr ⟨w.heap.size, 0, #[], rfl, hb, heap_alloc_new w _, Nat.le_refl _, Nat.zero_le _, by simp, by simp⟩⟩
theorem OwnV.alloc {w : World} {base : Nat} {v : Value} {zs : List Int} (h : OwnV w base v zs) (o : Obj) : OwnV (w.alloc o) base v zs := World.ownsRow.alloc h o
/-- A slice's address: nil, or a plain one. -/
def Plain (A : Option Addr) (c : Nat) : Prop := (A = none ∧ c = 0) ∨ ∃ b off, A = some ⟨b, off, none⟩
theorem Plain.nil_ : Plain none 0 := .inl ⟨rfl, rfl⟩
theorem Plain.at_ (b off c : Nat) : Plain (some ⟨b, off, none⟩) c := .inr ⟨b, off, rfl⟩
theorem OwnV.form {w : World} {base : Nat} {v : Value} {zs : List Int} (h : OwnV w base v zs) : ∃ A c, v = .slice A zs.length c ∧ zs.length ≤ c ∧ Plain A c ∧ Own w base w.heap.size A zs.length zs := by
  rcases h.2 with ⟨rfl, h0⟩ | ⟨g, cap, cur, rfl, _, _, hc, _⟩
  · have : zs = [] := List.eq_nil_of_length_eq_zero h0
    subst this
    exact ⟨none, 0, rfl, Nat.le_refl _, Plain.nil_, Own.none_⟩
  · exact ⟨_, cap, rfl, hc, Plain.at_ _ _ _, Own.of_row (c := cap) h⟩
theorem OwnV.form_at {w : World} {base n : Nat} {v : Value} {zs : List Int} (h : OwnV w base v zs) (hn : zs.length = n) : ∃ A c, v = .slice A n c ∧ n ≤ c ∧ Plain A c ∧ Own w base w.heap.size A n zs := by
  subst hn; exact h.form
theorem OwnV.block {w : World} {base : Nat} {v : Value} {zs : List Int} (h : OwnV w base v zs) : ∀ k, v.ownBlock = some k → base ≤ k := by
  rcases h.2 with ⟨rfl, _⟩ | ⟨g, cap, cur, rfl, hg, _⟩
  · intro k hk; simp [Value.ownBlock] at hk
  · intro k hk; simp [Value.ownBlock] at hk; omega
theorem OwnV.kept {w w' : World} {base : Nat} {v : Value} {zs : List Int} (h : OwnV w base v zs) (hb : Below w.heap.size w w') : OwnV w' base v zs := by
  refine ⟨h.1, ?_⟩
  rcases h.2 with h0 | ⟨g, cap, cur, hv, hg, hh, r⟩
  · exact .inl h0
  · exact .inr ⟨g, cap, cur, hv, hg, (hb.block g (lt_of_block hh)).trans hh, r⟩

/-- 'out = append(out, z)', out the call's own: the one element lies in a new block of its own. -/
theorem wpList_push {w : World} {ops : Array Oper} {rest : List Oper} {o : Oper} {a : Act} {Q : Exit → Act → World → Prop} (hgd : o.guard = none) (s x : Operand)
    (ho : o.op = .call { callee := .builtin .append, args := #[s, x], argTypes := #[27, 27] })
    (base : Nat) (v : Value) (zs : List Int) (hs : a.eval s = v) (hown : OwnV w base v zs) (z : Int)
    (hx : a.eval x = .slice (some ⟨w.heap.size, 0, none⟩) 1 1) (hn : zs.length ≤ 1048576) (hbase : base ≤ w.heap.size)
    (h : ∀ v' w', OwnV w' base v' (zs ++ [z]) → Below base w w' → wpList Try.prog ops Q rest (a.put o.dst v') w') : wpList Try.prog ops Q (o :: rest) a (w.alloc (.cells #[.int .i64 z] 2)) := by
  obtain ⟨i0, hi0, hz0, hz1, hz2⟩ := info_parts cells_info
  refine wpList_append_own _ hgd s x 27 ho base 2 i0 (.int .i64 0) 1 8 Try.underlying27 hi0 hz0 hz1 hz2 rfl (by decide) v zs.length (zs.map (Value.int .i64)) hs (hown.alloc _)
    ⟨w.heap.size, 0, none⟩ 1 1 [.int .i64 z] hx rfl ?_ ?_ ?_ ?_ ?_ ?_
  · intro j u hj
    match j, hj with
    | 0, hj => simp at hj; subst hj; simp [Addr.add]
  · intro u hu; simp at hu; subst hu; rfl
  · unfold maxLen; omega
  · omega
  · simp; omega
  · intro v' w' h1 h2 _
    refine h v' w' ?_ ?_
    · unfold OwnV; simpa using h1
    · have hb : Below base w (w.alloc (.cells #[.int .i64 z] 2)) := (Below.refl _ _).alloc hbase _
      exact hb.grown h2 (by simp; omega) hown.block

/-- A function hands back a slice in new memory that holds zs. -/
def RetS (w : World) (zs : List Int) (e : Ending) (w' : World) : Prop :=
  ∃ A c, e = .returned (.slice A zs.length c) ∧ zs.length ≤ c ∧ Plain A c ∧ Own w' w.heap.size w'.heap.size A zs.length zs ∧ Chg w w' 0 0
/-- .. and an int64 beside it. -/
def RetSI (w : World) (zs : List Int) (k : Int) (e : Ending) (w' : World) : Prop :=
  ∃ A c, e = .returned (.tuple #[.slice A zs.length c, .int .i64 k]) ∧ zs.length ≤ c ∧ Plain A c ∧ Own w' w.heap.size w'.heap.size A zs.length zs ∧ Chg w w' 0 0

theorem RetS.of_own {w w' : World} {v : Value} {zs : List Int} (h : OwnV w' w.heap.size v zs) (hb : Below w.heap.size w w') : RetS w zs (.returned v) w' := by
  obtain ⟨A, c, rfl, h1, h2, h3⟩ := h.form
  exact ⟨A, c, rfl, h1, h2, h3, Chg.of_below hb _ _⟩
theorem RetSI.of_own {w w' : World} {v : Value} {zs : List Int} {k : Int} (h : OwnV w' w.heap.size v zs) (hb : Below w.heap.size w w') : RetSI w zs k (.returned (.tuple #[v, .int .i64 k])) w' := by
  obtain ⟨A, c, rfl, h1, h2, h3⟩ := h.form
  exact ⟨A, c, rfl, h1, h2, h3, Chg.of_below hb _ _⟩

/-- A function hands back a slice of the call's own that may grow. -/
def RetV (w : World) (zs : List Int) (e : Ending) (w' : World) : Prop := ∃ v, e = .returned v ∧ OwnV w' w.heap.size v zs ∧ Below w.heap.size w w'
theorem RetS.of_V {w w' : World} {zs : List Int} {e : Ending} (h : RetV w zs e w') : RetS w zs e w' := by
  obtain ⟨v, rfl, h1, h2⟩ := h
  exact RetS.of_own h1 h2
theorem OwnV.more {w : World} {base base' : Nat} {v : Value} {zs : List Int} (h : OwnV w base v zs) (hb : base' ≤ base) : OwnV w base' v zs := by
  refine ⟨h.1, ?_⟩
  rcases h.2 with h0 | ⟨g, cap, cur, hv, hg, r⟩
  · exact .inl h0
  · exact .inr ⟨g, cap, cur, hv, Nat.le_trans hb hg, r⟩
theorem OwnV.chg {w w' : World} {base lo hi : Nat} {v : Value} {zs : List Int} (h : OwnV w base v zs) (c : Chg w w' lo hi) (hd : hi ≤ base) : OwnV w' base v zs := by
  refine ⟨h.1, ?_⟩
  rcases h.2 with h0 | ⟨g, cap, cur, hv, hg, hh, r⟩
  · exact .inl h0
  · exact .inr ⟨g, cap, cur, hv, hg, (c.block g (lt_of_block hh) (by omega)).trans hh, r⟩

/-- The first k elements that pass, and the next one. -/
theorem take_filter_succ (p : Int → Bool) (zs : List Int) (k : Nat) (h : k < zs.length) : (zs.take (k + 1)).filter p = (zs.take k).filter p ++ if p (zs.getD k 0) then [zs.getD k 0] else [] := by
  rw [List.take_succ_eq_append_getElem h, List.filter_append]
  have e : zs.getD k 0 = zs[k] := by simp [List.getD, List.getElem?_eq_getElem h]
  rw [e]
  simp [List.filter_cons]
end

end Go.Proofs.Yteglffbeldlibaa.Lib1
