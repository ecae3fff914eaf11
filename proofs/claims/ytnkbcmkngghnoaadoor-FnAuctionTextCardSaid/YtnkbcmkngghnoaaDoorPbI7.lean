/- Chapter 7: the program's bidding, call by call. (Written by wip/gen7b.py.) -/
import Derived.Test.YtnkbcmkngghnoaaDoorPb7
import Derived.Deep.MidRow
namespace Go.Proofs.YtnkbcmkngghnoaaDoor.Lib1
open Go.RowKit
set_option maxRecDepth 100000

/-- Block g holds a bidding: dealer, calls, bid, side, state, passes. -/
def PBox (w : World) (g : Nat) (d : Int) (v : Value) (B S T : Int) (P : Nat) : Prop := w.heap[g]? = some (.cells #[.int .i64 d, v, .int .i64 B, .int .i64 S, .int .i64 T, .int .i64 (P : Int)] 97 (0, 0))
section
variable {w w' : World} {g : Nat} {d : Int} {v : Value} {B S T : Int} {P : Nat}
theorem PBox.lt (h : PBox w g d v B S T P) : g < w.heap.size := lt_of_block h
theorem PBox.still (h : PBox w g d v B S T P) (k : Chg w w' 0 0) : PBox w' g d v B S T P := (k.block g (lt_of_block h) (.inr (Nat.zero_le _))).trans h
theorem PBox.below {b : Nat} (h : PBox w g d v B S T P) (k : Below b w w') (hb : g < b) : PBox w' g d v B S T P := (k.block g hb).trans h
theorem PBox.drewN (h : PBox w g d v B S T P) (q : Nat) : PBox (w.drewN q) g d v B S T P := h.still (Chg.drewN _ _ _ _)
theorem PBox.drew (h : PBox w g d v B S T P) : PBox w.drew g d v B S T P := h.still (Chg.of_drew ⟨1, rfl⟩ _ _)
theorem PBox.c0 (h : PBox w g d v B S T P) : w.cell? ⟨g, 0, none⟩ = some (.int .i64 d) := by rw [cell_of_row w g 0 _ _ _ h]; rfl
theorem PBox.c1 (h : PBox w g d v B S T P) : w.cell? ⟨g, 1, none⟩ = some v := by rw [cell_of_row w g 1 _ _ _ h]; rfl
theorem PBox.c2 (h : PBox w g d v B S T P) : w.cell? ⟨g, 2, none⟩ = some (.int .i64 B) := by rw [cell_of_row w g 2 _ _ _ h]; rfl
theorem PBox.c3 (h : PBox w g d v B S T P) : w.cell? ⟨g, 3, none⟩ = some (.int .i64 S) := by rw [cell_of_row w g 3 _ _ _ h]; rfl
theorem PBox.c4 (h : PBox w g d v B S T P) : w.cell? ⟨g, 4, none⟩ = some (.int .i64 T) := by rw [cell_of_row w g 4 _ _ _ h]; rfl
theorem PBox.c5 (h : PBox w g d v B S T P) : w.cell? ⟨g, 5, none⟩ = some (.int .i64 (P : Int)) := by rw [cell_of_row w g 5 _ _ _ h]; rfl
theorem PBox.fr (h : PBox w g d v B S T P) (i : Nat) : w.frozen? ⟨g, i, none⟩ = false := by unfold PBox at h; simp [World.frozen?, h]
theorem PBox.r0 (h : PBox w g d v B S T P) : w.rangeAt g 0 [.int .i64 d, v] := fun j u hj => by
  match j, hj with
  | 0, hj => simp at hj; subst hj; exact h.c0
  | 1, hj => simp at hj; subst hj; exact h.c1
theorem PBox.r3 (h : PBox w g d v B S T P) : w.rangeAt g 3 [.int .i64 S, .int .i64 T] := fun j u hj => by
  match j, hj with
  | 0, hj => simp at hj; subst hj; exact h.c3
  | 1, hj => simp at hj; subst hj; exact h.c4
theorem PBox.there3 (h : PBox w g d v B S T P) : w.there g 3 2 := fun j hj => by
  refine ⟨?_, h.fr _⟩
  match j, hj with
  | 0, _ => rw [show 3 + 0 = 3 from rfl, h.c3]; rfl
  | 1, _ => rw [show 3 + 1 = 4 from rfl, h.c4]; rfl
theorem set_heap7 {C : Array Value} {t : TypeId} {fz : Nat × Nat} (h : w.heap[g]? = some (.cells C t fz)) (i : Nat) (u : Value) : (w.setCell ⟨g, i, none⟩ u).heap[g]? = some (.cells (C.setIfInBounds i u) t fz) := by
  simp [World.setCell, Array.getElem?_modify, h]
theorem PBox.set1 (h : PBox w g d v B S T P) (u : Value) : PBox (w.setCell ⟨g, 1, none⟩ u) g d u B S T P := set_heap7 h 1 u
theorem PBox.set2 (h : PBox w g d v B S T P) (x : Int) : PBox (w.setCell ⟨g, 2, none⟩ (.int .i64 x)) g d v x S T P := set_heap7 h 2 _
theorem PBox.set4 (h : PBox w g d v B S T P) (x : Int) : PBox (w.setCell ⟨g, 4, none⟩ (.int .i64 x)) g d v B S x P := set_heap7 h 4 _
theorem PBox.set5 (h : PBox w g d v B S T P) (x : Nat) : PBox (w.setCell ⟨g, 5, none⟩ (.int .i64 (x : Int))) g d v B S T x := set_heap7 h 5 _
theorem PBox.set34 (h : PBox w g d v B S T P) (x y : Int) : PBox (w.setCells g 3 [.int .i64 x, .int .i64 y]) g d v B x y P := set_heap7 (set_heap7 h 3 (.int .i64 x)) 4 (.int .i64 y)
theorem Chg.setG {lo hi : Nat} (w : World) (i : Nat) (u : Value) (h1 : lo ≤ g) (h2 : g < hi) : Chg w (w.setCell ⟨g, i, none⟩ u) lo hi := (Chg.refl _ _ _).store h1 h2 u
theorem Chg.setG34 {lo hi : Nat} (w : World) (x y : Value) (h1 : lo ≤ g) (h2 : g < hi) : Chg w (w.setCells g 3 [x, y]) lo hi := ((Chg.refl w lo hi).store h1 h2 x).store h1 h2 y
end
theorem auc_info7 (d : Int) (v : Value) : (Tryd.prog.info? 26).map (·.size) = some ([.int .i64 d, v] : List Value).length := by kernel_rfl
theorem std_info7 (x y : Value) : (Tryd.prog.info? 95).map (·.size) = some ([x, y] : List Value).length := by kernel_rfl
theorem std_info7a (x y : Int) : (Tryd.prog.info? 95).map (·.size) = some (#[.int .i64 x, .int .i64 y] : Array Value).size := by kernel_rfl
theorem std_cells7 (x y : Int) : (#[.int .i64 x, .int .i64 y] : Array Value).all (·.oneCell') = true := by kernel_rfl
theorem std_eq7 (S T a b : Int) (w : World) : (binOp .eql 95 (.agg #[.int .i64 S, .int .i64 T]) (.agg #[.int .i64 a, .int .i64 b])).run Tryd.prog w = .ok (.bool (S == a && T == b)) w := by
  have hf : Tryd.prog.underlying 95 = some (.struct (Tryd.prog.fieldsOf 95)) := by unfold Program.fieldsOf; rw [Tryd.underlying95]
  rw [run_eql_struct, show (10000 : Nat) = 9999 + 1 from rfl, run_equalIn_struct w 9999 _ _ _ hf (by kernel_rfl)]
  have q0 : (part 2 #[.int .i64 S, .int .i64 T] 0).run Tryd.prog w = .ok (.int .i64 S) w := by kernel_rfl
  have q1 : (part 2 #[.int .i64 S, .int .i64 T] 1).run Tryd.prog w = .ok (.int .i64 T) w := by kernel_rfl
  have r0 : (part 2 #[.int .i64 a, .int .i64 b] 0).run Tryd.prog w = .ok (.int .i64 a) w := by kernel_rfl
  have r1 : (part 2 #[.int .i64 a, .int .i64 b] 1).run Tryd.prog w = .ok (.int .i64 b) w := by kernel_rfl
  have e (x y : Int) : (Op.equalIn 9999 2 (.int .i64 x) (.int .i64 y)).run Tryd.prog w = .ok (x == y) w := run_equalIn_int (P := Tryd.prog) w 9998 2 .i64 .i64 x y Tryd.underlying2
  unfold Program.fieldsOf
  rw [Tryd.underlying95]
  simp [Op.eqFields, q0, q1, r0, r1, e]
  by_cases h0 : S = a <;> by_cases h1 : T = b <;> simp [h0, h1]

theorem isSeat7 (s : Int) (w : World) : Calls Tryd.prog 66 #[.int .i64 s] w fun e w' => e = .returned (.bool (inB s 0 3)) ∧ w = w' := by
  by_cases h1 : 0 ≤ s
  · by_cases h2 : s < 4
    · rw [inB_true (by omega)]
      go_enter Tryd.func66, Tryd.ntmps66
      go_wp2
      go_ret
      exact ⟨rfl, rfl⟩
    · rw [inB_false (by omega)]
      go_enter Tryd.func66, Tryd.ntmps66
      go_wp2
      go_ret
      exact ⟨rfl, rfl⟩
  · rw [inB_false (by omega)]
    go_enter Tryd.func66, Tryd.ntmps66
    go_wp2
    go_ret
    exact ⟨rfl, rfl⟩
theorem sideOf7 (s : Int) (w : World) (h0 : 0 ≤ s) : Calls Tryd.prog 85 #[.int .i64 s] w fun e w' => e = .returned (.int .i64 (s % 2)) ∧ w = w' := by
  go_enter Tryd.func85, Tryd.ntmps85
  go_wp2
  go_ret
  exact ⟨rfl, rfl⟩
theorem otherSide7 (s : Int) (w : World) (h0 : 0 ≤ s) (h1 : s ≤ 1) : Calls Tryd.prog 100 #[.int .i64 s] w fun e w' => e = .returned (.int .i64 (1 - s)) ∧ w = w' := by
  go_enter Tryd.func100, Tryd.ntmps100
  go_wp2
  go_ret
  exact ⟨rfl, rfl⟩
theorem seatAt7 (d k : Int) (w : World) (hd : 0 ≤ d ∧ d ≤ 3) (k0 : 0 ≤ k) (k1 : k ≤ 1048577) :
    Calls Tryd.prog 108 #[.int .i64 d, .int .i64 k] w fun e w' => e = .returned (.int .i64 ((d + k) % 4)) ∧ w = w' := by
  obtain ⟨d0, d1⟩ := hd
  have s0 : 0 ≤ d + k := by omega
  go_enter Tryd.func108, Tryd.ntmps108
  go_wp2
  go_ret
  exact ⟨rfl, rfl⟩
theorem caller7 (d k : Int) (A : Option Addr) (n c : Nat) (w : World) (hd : 0 ≤ d ∧ d ≤ 3) (k0 : 0 ≤ k) (k1 : k ≤ 1048577) :
    Calls Tryd.prog 101 #[.agg #[.int .i64 d, .slice A n c], .int .i64 k] w fun e w' => e = .returned (.int .i64 ((d + k) % 4)) ∧ Chg w w' 0 0 := by
  have C0 := Lib.hid (Chg.of_alloc w (.cells #[.int .i64 d, .slice A n c] 26) 0 0)
  go_enter Tryd.func101, Tryd.ntmps101
  go_wp2_with (go_at_call 108; refine (seatAt7 d k _ hd k0 k1).mono ?_; rintro e w' ⟨rfl, rfl⟩)
  go_ret
  exact ⟨rfl, C0.out⟩

set_option maxHeartbeats 1600000 in
theorem turn7 (g : Nat) (d : Int) (A : Option Addr) (n c : Nat) (B S T : Int) (P : Nat) (w : World) (h : PBox w g d (.slice A n c) B S T P) (hd : 0 ≤ d ∧ d ≤ 3) (hn : n ≤ 1048576) :
    Calls Tryd.prog 86 #[.pointer (some ⟨g, 0, none⟩)] w fun e w' => e = .returned (.int .i64 ((d + (n : Int)) % 4)) ∧ Chg w w' 0 0 := by
  have H0 := h.drew
  go_enter Tryd.func86, Tryd.ntmps86
  go_wp2_with fail
  refine wp_region_held_drew (S := fun V => PBox V g d (.slice A n c) B S T P) (by kernel_rfl) H0 (fun hHeld => ?_)
  refine take_slotC (i := 0) (d := some 3) (v := .pointer (some ⟨g, 0, none⟩)) rfl (by kernel_rfl) (by kernel_rfl) (by kernel_rfl) (by kernel_rfl) (fun _ _ _ h => h) (.inl ⟨by kernel_rfl, fun V hV => by have q0 := PBox.c0 hV; have q1 := PBox.c1 hV; have q2 := PBox.c2 hV; have q3 := PBox.c3 hV; have q4 := PBox.c4 hV; go_simp⟩) hHeld ?_
  try simp only [Act.put, List.setIfInBounds_toArray, List.set_cons_zero, List.set_cons_succ]
  refine take_slotC (i := 1) (d := some 4) (v := .pointer (some ⟨g, 0, none⟩)) rfl (by kernel_rfl) (by kernel_rfl) (by kernel_rfl) (by kernel_rfl) (fun _ _ _ h => h) (.inl ⟨by kernel_rfl, fun V hV => by have q0 := PBox.c0 hV; have q1 := PBox.c1 hV; have q2 := PBox.c2 hV; have q3 := PBox.c3 hV; have q4 := PBox.c4 hV; go_simp⟩) hHeld ?_
  try simp only [Act.put, List.setIfInBounds_toArray, List.set_cons_zero, List.set_cons_succ]
  refine take_slotC (i := 2) (d := some 5) (v := .pointer (some ⟨g, 0, none⟩)) rfl (by kernel_rfl) (by kernel_rfl) (by kernel_rfl) (by kernel_rfl) (fun _ _ _ h => h) (.inl ⟨by kernel_rfl, fun V hV => by have q0 := PBox.c0 hV; have q1 := PBox.c1 hV; have q2 := PBox.c2 hV; have q3 := PBox.c3 hV; have q4 := PBox.c4 hV; go_simp⟩) hHeld ?_
  try simp only [Act.put, List.setIfInBounds_toArray, List.set_cons_zero, List.set_cons_succ]
  refine take_slotC (i := 3) (d := some 6) (v := .agg #[.int .i64 d, .slice A n c]) rfl (by kernel_rfl) (by kernel_rfl) (by kernel_rfl) (by kernel_rfl) (fun _ _ _ h => h) (yieldsIf_load_mid (by kernel_rfl) 26 (.tmp 5) rfl g 0 rfl [.int .i64 d, .slice A n c] _ (fun V hV => PBox.r0 hV) Tryd.underlying26 rfl (auc_info7 _ _)) hHeld ?_
  try simp only [Act.put, List.setIfInBounds_toArray, List.set_cons_zero, List.set_cons_succ]
  refine take_slotC (i := 4) (d := some 7) (v := .pointer (some ⟨g, 0, none⟩)) rfl (by kernel_rfl) (by kernel_rfl) (by kernel_rfl) (by kernel_rfl) (fun _ _ _ h => h) (.inl ⟨by kernel_rfl, fun V hV => by have q0 := PBox.c0 hV; have q1 := PBox.c1 hV; have q2 := PBox.c2 hV; have q3 := PBox.c3 hV; have q4 := PBox.c4 hV; go_simp⟩) hHeld ?_
  try simp only [Act.put, List.setIfInBounds_toArray, List.set_cons_zero, List.set_cons_succ]
  refine take_slotC (i := 5) (d := some 8) (v := .pointer (some ⟨g, 0, none⟩)) rfl (by kernel_rfl) (by kernel_rfl) (by kernel_rfl) (by kernel_rfl) (fun _ _ _ h => h) (.inl ⟨by kernel_rfl, fun V hV => by have q0 := PBox.c0 hV; have q1 := PBox.c1 hV; have q2 := PBox.c2 hV; have q3 := PBox.c3 hV; have q4 := PBox.c4 hV; go_simp⟩) hHeld ?_
  try simp only [Act.put, List.setIfInBounds_toArray, List.set_cons_zero, List.set_cons_succ]
  refine take_slotC (i := 6) (d := some 9) (v := .pointer (some ⟨g, 0, none⟩)) rfl (by kernel_rfl) (by kernel_rfl) (by kernel_rfl) (by kernel_rfl) (fun _ _ _ h => h) (.inl ⟨by kernel_rfl, fun V hV => by have q0 := PBox.c0 hV; have q1 := PBox.c1 hV; have q2 := PBox.c2 hV; have q3 := PBox.c3 hV; have q4 := PBox.c4 hV; go_simp⟩) hHeld ?_
  try simp only [Act.put, List.setIfInBounds_toArray, List.set_cons_zero, List.set_cons_succ]
  refine take_slotC (i := 7) (d := some 10) (v := .pointer (some ⟨g, 1, none⟩)) rfl (by kernel_rfl) (by kernel_rfl) (by kernel_rfl) (by kernel_rfl) (fun _ _ _ h => h) (.inl ⟨by kernel_rfl, fun V hV => by have q0 := PBox.c0 hV; have q1 := PBox.c1 hV; have q2 := PBox.c2 hV; have q3 := PBox.c3 hV; have q4 := PBox.c4 hV; go_simp⟩) hHeld ?_
  try simp only [Act.put, List.setIfInBounds_toArray, List.set_cons_zero, List.set_cons_succ]
  refine take_slotC (i := 8) (d := some 11) (v := .slice A n c) rfl (by kernel_rfl) (by kernel_rfl) (by kernel_rfl) (by kernel_rfl) (fun _ _ _ h => h) (.inl ⟨by kernel_rfl, fun V hV => by have q0 := PBox.c0 hV; have q1 := PBox.c1 hV; have q2 := PBox.c2 hV; have q3 := PBox.c3 hV; have q4 := PBox.c4 hV; go_simp⟩) hHeld ?_
  try simp only [Act.put, List.setIfInBounds_toArray, List.set_cons_zero, List.set_cons_succ]
  refine take_slotC (i := 9) (d := some 12) (v := .int .i64 (n : Int)) rfl (by kernel_rfl) (by kernel_rfl) (by kernel_rfl) (by kernel_rfl) (fun _ _ _ h => h) (.inl ⟨by kernel_rfl, fun V hV => by have q0 := PBox.c0 hV; have q1 := PBox.c1 hV; have q2 := PBox.c2 hV; have q3 := PBox.c3 hV; have q4 := PBox.c4 hV; go_simp⟩) hHeld ?_
  try simp only [Act.put, List.setIfInBounds_toArray, List.set_cons_zero, List.set_cons_succ]
  refine wpAnyH_ready (rs := [10]) (by kernel_rfl) (by simp) (AllReadyH.cons (i := 10) rfl (fun K' hK' => ?_) AllReadyH.nil)
  go_simp
  refine (caller7 d (n : Int) A n c _ hd (by omega) (by omega)).mono ?_
  rintro e w2 ⟨rfl, c2⟩
  have C2 := Lib.hid c2
  clear c2
  refine hK'.out _ _ (PBox.still hHeld C2.out) (fun hHeld => ?_)
  clear hK'
  try simp only [Act.put, List.setIfInBounds_toArray, List.set_cons_zero, List.set_cons_succ]
  refine take_slotC (i := 11) (d := some 2) (v := .int .i64 ((d + (n : Int)) % 4)) rfl (by kernel_rfl) (by kernel_rfl) (by kernel_rfl) (by kernel_rfl) (fun _ _ _ h => h) (.inl ⟨by kernel_rfl, fun V hV => by have q0 := PBox.c0 hV; have q1 := PBox.c1 hV; have q2 := PBox.c2 hV; have q3 := PBox.c3 hV; have q4 := PBox.c4 hV; go_simp⟩) hHeld ?_
  try simp only [Act.put, List.setIfInBounds_toArray, List.set_cons_zero, List.set_cons_succ]
  refine wpAnyH_done (by kernel_rfl) ?_ _
  go_wp2_with fail
  go_ret
  exact ⟨rfl, (Chg.of_drew ⟨1, rfl⟩ 0 0).trans C2.out⟩

def endP' (B : Int) (P : Nat) : Bool := if B = 0 then decide (P = 4) else decide (P = 3)
theorem ended7 (g : Nat) (d : Int) (v : Value) (B S T : Int) (P : Nat) (w : World) (h : PBox w g d v B S T P) (hP : P ≤ 1048576) :
    Calls Tryd.prog 99 #[.pointer (some ⟨g, 0, none⟩)] w fun e w' => e = .returned (.bool (endP' B P)) ∧ w = w' := by
  have q2 := h.c2
  have q5 := h.c5
  by_cases hB : B = 0
  · have hr : Hid (endP' B P = decide (P = 4)) := by show endP' B P = _; unfold endP'; rw [if_pos hB]
    subst hB
    by_cases h4 : P = 4
    · subst h4
      go_enter Tryd.func99, Tryd.ntmps99
      go_wp2
      go_ret
      exact ⟨ret_bool (by rw [hr.out]; rfl), rfl⟩
    · have h4i : ((P : Int) == 4) = false := by simp; omega
      go_enter Tryd.func99, Tryd.ntmps99
      go_wp2
      go_ret
      exact ⟨ret_bool (by rw [hr.out, decide_eq_false h4]), rfl⟩
  · have hr : Hid (endP' B P = decide (P = 3)) := by show endP' B P = _; unfold endP'; rw [if_neg hB]
    have hBi : (B == 0) = false := by simpa using hB
    clear hB
    by_cases h4 : P = 3
    · subst h4
      go_enter Tryd.func99, Tryd.ntmps99
      go_wp2
      go_ret
      exact ⟨ret_bool (by rw [hr.out]; rfl), rfl⟩
    · have h4i : ((P : Int) == 3) = false := by simp; omega
      go_enter Tryd.func99, Tryd.ntmps99
      go_wp2
      go_ret
      exact ⟨ret_bool (by rw [hr.out, decide_eq_false h4]), rfl⟩

/-- What the bidding allows. -/
def allowV (own B S T : Int) (P : Nat) (x : Int) : Bool :=
  !endP' B P && (if x = 0 then true else if x = 1 then (S == 1 - own && T == 0) else if x = 2 then (S == own && T == 1) else inB x 3 37 && decide (B < x))
set_option maxHeartbeats 3200000 in
theorem allows7 (g : Nat) (d : Int) (A : Option Addr) (n c : Nat) (B S T : Int) (P : Nat) (x : Int) (w : World) (h : PBox w g d (.slice A n c) B S T P) (hd : 0 ≤ d ∧ d ≤ 3) (hn : n ≤ 1048576) (hP : P ≤ 1048576) :
    Calls Tryd.prog 84 #[.pointer (some ⟨g, 0, none⟩), .int .i64 x] w fun e w' => e = .returned (.bool (allowV ((d + (n : Int)) % 4 % 2) B S T P x)) ∧ Chg w w' 0 0 := by
  have HR := Lib.hid (show allowV ((d + (n : Int)) % 4 % 2) B S T P x = (!endP' B P && (if x = 0 then true else if x = 1 then (S == 1 - (d + (n : Int)) % 4 % 2 && T == 0) else if x = 2 then (S == (d + (n : Int)) % 4 % 2 && T == 1) else inB x 3 37 && decide (B < x))) from rfl)
  obtain ⟨R, hR⟩ : ∃ R, R = allowV ((d + (n : Int)) % 4 % 2) B S T P x := ⟨_, rfl⟩
  rw [← hR] at HR ⊢
  clear hR
  have H := Lib.hid h
  clear h
  go_enter Tryd.func84, Tryd.ntmps84
  go_wp2_with fail
  refine (ended7 g d _ B S T P _ H.out hP).mono ?_
  rintro e w' ⟨rfl, rfl⟩
  cases hE : endP' B P
  · have HR := Lib.hid (show R = (if x = 0 then true else if x = 1 then (S == 1 - (d + (n : Int)) % 4 % 2 && T == 0) else if x = 2 then (S == (d + (n : Int)) % 4 % 2 && T == 1) else inB x 3 37 && decide (B < x)) by rw [HR.out, hE]; rfl)
    clear hE
    go_wp2_with fail
    refine (turn7 g d A n c B S T P _ H.out hd hn).mono ?_
    rintro e w1 ⟨rfl, c1⟩
    have H1 := Lib.hid (H.out.still c1)
    have C1 := Lib.hid c1
    clear c1 H
    obtain ⟨t, ht⟩ : ∃ t, t = (d + (n : Int)) % 4 := ⟨_, rfl⟩
    rw [← ht] at HR ⊢
    have t0 : 0 ≤ t := by omega
    clear ht
    obtain ⟨u, hu⟩ : ∃ u, u = t % 2 := ⟨_, rfl⟩
    have HS := sideOf7 t w1 t0
    rw [← hu] at HR HS
    have u0 : 0 ≤ u := by omega
    have u1 : u ≤ 1 := by omega
    have HS := Lib.hid HS
    clear hu t0
    go_wp2_with fail
    refine HS.out.mono ?_
    rintro e w' ⟨rfl, rfl⟩
    clear HS
    by_cases x0 : x = 0
    · subst x0
      have hr : Hid (R = true) := by show R = true; rw [HR.out]; rfl
      go_wp2
      go_ret
      exact ⟨ret_bool hr.out.symm, C1.out⟩
    have p0 : (x == 0) = false := by simpa using x0
    by_cases x1 : x = 1
    · subst x1
      have hr : Hid (R = (S == 1 - u && T == 0)) := by show R = _; rw [HR.out]; rfl
      have hse := std_eq7 S T (1 - u) 0
      have H0 := H1.out.drew
      clear x0
      go_wp2_with fail
      refine wp_region_held_drew (S := fun V => PBox V g d (.slice A n c) B S T P) (by kernel_rfl) H0 (fun hHeld => ?_)
      refine take_slotC (i := 0) (d := some 16) (v := .pointer (some ⟨g, 0, none⟩)) rfl (by kernel_rfl) (by kernel_rfl) (by kernel_rfl) (by kernel_rfl) (fun _ _ _ h => h) (.inl ⟨by kernel_rfl, fun V hV => by have q0 := PBox.c0 hV; have q1 := PBox.c1 hV; have q2 := PBox.c2 hV; have q3 := PBox.c3 hV; have q4 := PBox.c4 hV; go_simp⟩) hHeld ?_
      try simp only [Act.put, List.setIfInBounds_toArray, List.set_cons_zero, List.set_cons_succ]
      refine take_slotC (i := 1) (d := some 17) (v := .pointer (some ⟨g, 0, none⟩)) rfl (by kernel_rfl) (by kernel_rfl) (by kernel_rfl) (by kernel_rfl) (fun _ _ _ h => h) (.inl ⟨by kernel_rfl, fun V hV => by have q0 := PBox.c0 hV; have q1 := PBox.c1 hV; have q2 := PBox.c2 hV; have q3 := PBox.c3 hV; have q4 := PBox.c4 hV; go_simp⟩) hHeld ?_
      try simp only [Act.put, List.setIfInBounds_toArray, List.set_cons_zero, List.set_cons_succ]
      refine take_slotC (i := 2) (d := some 18) (v := .pointer (some ⟨g, 3, none⟩)) rfl (by kernel_rfl) (by kernel_rfl) (by kernel_rfl) (by kernel_rfl) (fun _ _ _ h => h) (.inl ⟨by kernel_rfl, fun V hV => by have q0 := PBox.c0 hV; have q1 := PBox.c1 hV; have q2 := PBox.c2 hV; have q3 := PBox.c3 hV; have q4 := PBox.c4 hV; go_simp⟩) hHeld ?_
      try simp only [Act.put, List.setIfInBounds_toArray, List.set_cons_zero, List.set_cons_succ]
      refine take_slotC (i := 3) (d := some 19) (v := .agg #[.int .i64 S, .int .i64 T]) rfl (by kernel_rfl) (by kernel_rfl) (by kernel_rfl) (by kernel_rfl) (fun _ _ _ h => h) (yieldsIf_load_mid (by kernel_rfl) 95 (.tmp 18) rfl g 3 rfl [.int .i64 S, .int .i64 T] _ (fun V hV => PBox.r3 hV) Tryd.underlying95 rfl (std_info7 _ _)) hHeld ?_
      try simp only [Act.put, List.setIfInBounds_toArray, List.set_cons_zero, List.set_cons_succ]
      refine take_slotC (i := 4) (d := some 20) (v := .int .i64 u) rfl (by kernel_rfl) (by kernel_rfl) (by kernel_rfl) (by kernel_rfl) (fun _ _ _ h => h) (.inl ⟨by kernel_rfl, fun V hV => by have q0 := PBox.c0 hV; have q1 := PBox.c1 hV; have q2 := PBox.c2 hV; have q3 := PBox.c3 hV; have q4 := PBox.c4 hV; go_simp⟩) hHeld ?_
      try simp only [Act.put, List.setIfInBounds_toArray, List.set_cons_zero, List.set_cons_succ]
      refine wpAnyH_ready (rs := [5]) (by kernel_rfl) (by simp) (AllReadyH.cons (i := 5) rfl (fun K' hK' => ?_) AllReadyH.nil)
      go_simp
      refine (otherSide7 u _ u0 u1).mono ?_
      rintro e w' ⟨rfl, rfl⟩
      refine hK'.out _ _ hHeld (fun hHeld => ?_)
      clear hK'
      try simp only [Act.put, List.setIfInBounds_toArray, List.set_cons_zero, List.set_cons_succ]
      refine take_slotC (i := 6) (d := some 22) (v := .agg #[.int .i64 (1 - u), .int .i64 0]) rfl (by kernel_rfl) (by kernel_rfl) (by kernel_rfl) (by kernel_rfl) (fun _ _ _ h => h) (.inl ⟨by kernel_rfl, fun V hV => by have q0 := PBox.c0 hV; have q1 := PBox.c1 hV; have q2 := PBox.c2 hV; have q3 := PBox.c3 hV; have q4 := PBox.c4 hV; go_simp⟩) hHeld ?_
      try simp only [Act.put, List.setIfInBounds_toArray, List.set_cons_zero, List.set_cons_succ]
      refine take_slotC (i := 7) (d := some 23) (v := .bool (S == 1 - u && T == 0)) rfl (by kernel_rfl) (by kernel_rfl) (by kernel_rfl) (by kernel_rfl) (fun _ _ _ h => h) (.inl ⟨by kernel_rfl, fun V hV => by have q0 := PBox.c0 hV; have q1 := PBox.c1 hV; have q2 := PBox.c2 hV; have q3 := PBox.c3 hV; have q4 := PBox.c4 hV; go_simp⟩) hHeld ?_
      try simp only [Act.put, List.setIfInBounds_toArray, List.set_cons_zero, List.set_cons_succ]
      refine take_slotC (i := 8) (d := some 4) (v := .bool (S == 1 - u && T == 0)) rfl (by kernel_rfl) (by kernel_rfl) (by kernel_rfl) (by kernel_rfl) (fun _ _ _ h => h) (.inl ⟨by kernel_rfl, fun V hV => by have q0 := PBox.c0 hV; have q1 := PBox.c1 hV; have q2 := PBox.c2 hV; have q3 := PBox.c3 hV; have q4 := PBox.c4 hV; go_simp⟩) hHeld ?_
      try simp only [Act.put, List.setIfInBounds_toArray, List.set_cons_zero, List.set_cons_succ]
      refine wpAnyH_done (by kernel_rfl) ?_ _
      go_wp2_with fail
      go_ret
      exact ⟨ret_bool hr.out.symm, C1.out.trans (Chg.of_drew ⟨1, rfl⟩ 0 0)⟩
    have p1 : (x == 1) = false := by simpa using x1
    by_cases x2 : x = 2
    · subst x2
      have hr : Hid (R = (S == u && T == 1)) := by show R = _; rw [HR.out]; rfl
      have hse := std_eq7 S T u 1
      clear x0 x1
      go_wp2_with (refine wpList_load_mid rfl 95 _ rfl g 3 rfl [.int .i64 S, .int .i64 T] _ H1.out.r3 Tryd.underlying95 rfl (std_info7 _ _) ?_)
      go_ret
      exact ⟨ret_bool hr.out.symm, C1.out⟩
    have p2 : (x == 2) = false := by simpa using x2
    have hr : Hid (R = (inB x 3 37 && decide (B < x))) := by show R = _; rw [HR.out, if_neg x0, if_neg x1, if_neg x2]
    clear x0 x1 x2 HR
    have q2 := H1.out.c2
    cases hi : inB x 3 37
    · have hr : Hid (R = false) := by show R = _; rw [hr.out, hi]; rfl
      go_wp2_with (go_at_call 56; refine (isBid _ _).mono ?_; rintro e w' ⟨rfl, rfl⟩)
      go_ret
      exact ⟨ret_bool hr.out.symm, C1.out⟩
    · have hr : Hid (R = decide (B < x)) := by show R = _; rw [hr.out, hi]; rfl
      go_wp2_with (go_at_call 56; refine (isBid _ _).mono ?_; rintro e w' ⟨rfl, rfl⟩)
      go_ret
      exact ⟨ret_bool hr.out.symm, C1.out⟩
  · have hr : Hid (R = false) := by show R = false; rw [HR.out, hE]; rfl
    clear hE
    go_wp2
    go_ret
    exact ⟨ret_bool hr.out.symm, Chg.refl _ _ _⟩
end Go.Proofs.YtnkbcmkngghnoaaDoor.Lib1
