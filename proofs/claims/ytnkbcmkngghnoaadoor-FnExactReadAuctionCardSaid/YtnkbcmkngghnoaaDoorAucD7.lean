/- Chapter 7: the model's contract of an auction, ContractOf and IsContract. -/
import Derived.Test.YtnkbcmkngghnoaaDoorAucC7
namespace Go.Proofs.YtnkbcmkngghnoaaDoor.Lib1
open Go.RowKit
set_option maxRecDepth 100000

/-- Where the declarer of the side of place k first bid strain s: i steps back from k. -/
def firTo (cs : List Int) (k : Nat) (s : Int) : Nat → Nat
  | 0 => k
  | i + 1 => if i % 2 = 0 ∧ strV (cs.getD (k - i) 0) = s then k - i else firTo cs k s i
theorem firTo_le (cs : List Int) (k : Nat) (s : Int) : ∀ i, firTo cs k s i ≤ k
  | 0 => Nat.le_refl _
  | i + 1 => by have := firTo_le cs k s i; simp only [firTo]; split <;> omega
/-- The least place of the side that has bid the strain. -/
theorem firTo_least {cs : List Int} {k : Nat} {s : Int} (hk : strV (cs.getD k 0) = s) : ∀ i, 1 ≤ i → i ≤ k + 1 → (k - firTo cs k s i) % 2 = 0 ∧ strV (cs.getD (firTo cs k s i) 0) = s ∧ k < firTo cs k s i + i ∧ ∀ j, j < firTo cs k s i → k < j + i → (k - j) % 2 = 0 → strV (cs.getD j 0) ≠ s
  | 0, h, _ => by omega
  | 1, _, _ => by
    have e : firTo cs k s 1 = k := by rw [firTo, if_pos ⟨rfl, by simpa using hk⟩]; omega
    rw [e]
    exact ⟨by omega, hk, by omega, fun j h1 h2 => by omega⟩
  | i + 2, _, hi => by
    have ih := firTo_least hk (i + 1) (by omega) (by omega)
    rw [firTo]
    by_cases h : (i + 1) % 2 = 0 ∧ strV (cs.getD (k - (i + 1)) 0) = s
    · rw [if_pos h]
      exact ⟨by omega, h.2, by omega, fun j h1 h2 => by omega⟩
    · rw [if_neg h]
      refine ⟨ih.1, ih.2.1, by omega, fun j h1 h2 h3 hj => ?_⟩
      by_cases e : j = k - (i + 1)
      · subst e; exact h ⟨by omega, hj⟩
      · exact ih.2.2.2 j h1 (by omega) h3 hj
theorem firTo_is {cs : List Int} {k f : Nat} {s : Int} (hk : strV (cs.getD k 0) = s) (h1 : (k - f) % 2 = 0) (h2 : strV (cs.getD f 0) = s) (h3 : ∀ j, j < f → (k - j) % 2 = 0 → strV (cs.getD j 0) ≠ s) : firTo cs k s (k + 1) = f := by
  have h := firTo_least hk (k + 1) (by omega) (Nat.le_refl _)
  rcases Nat.lt_trichotomy (firTo cs k s (k + 1)) f with q | q | q
  · exact absurd h.2.1 (h3 _ q h.1)
  · exact q
  · exact absurd h2 (h.2.2.2 f q (by omega) h1)
/-- The contract of calls that end an auction: level, strain, state, declarer. -/
def conL (cs : List Int) (n : Nat) : Int := if bidTo cs n < 0 then 0 else levV (bidTo cs n)
def conS (cs : List Int) (n : Nat) : Int := if bidTo cs n < 0 then 0 else strV (bidTo cs n)
def conX (cs : List Int) (n : Nat) : Int := if bidTo cs n < 0 then 0 else stTo cs n
def conD (d : Int) (cs : List Int) (n : Nat) : Int := if bidTo cs n < 0 then 0 else (d + (firTo cs (atTo cs n).toNat (strV (bidTo cs n)) ((atTo cs n).toNat + 1) : Int)) % 4
def conA (l s x d : Int) : Array Value := #[.int .i64 l, .int .i64 s, .int .i64 x, .int .i64 d]
theorem con_info (l s x d : Int) : (Tryd.prog.info? 36).map (·.size) = some (conA l s x d).size := by kernel_rfl
theorem con_cells (l s x d : Int) : (conA l s x d).all (·.oneCell') = true := by kernel_rfl


/-! ### ContractOf -/
def conB (d : Int) (zs : List Int) (n : Nat) : Int := if !(inB d 0 3 && validTo zs n) then 1 else if !overTo zs n then 5 else 0
def conZ (d : Int) (zs : List Int) (n : Nat) : Array Value := if conB d zs n = 0 then conA (conL zs n) (conS zs n) (conX zs n) (conD d zs n) else conA 0 0 0 0

/-! ### IsContract -/
def isConV (l s x d : Int) : Bool := (l == 0 && s == 0 && x == 0 && d == 0) || (inB l 1 7 && inB s 0 4 && inB x 0 2 && inB d 0 3)
theorem con_eq (l s x d : Int) (w : World) : (binOp .eql 36 (.agg (conA l s x d)) (.agg (conA 0 0 0 0))).run Tryd.prog w = .ok (.bool (l == 0 && s == 0 && x == 0 && d == 0)) w := by
  have hf : Tryd.prog.underlying 36 = some (.struct (Tryd.prog.fieldsOf 36)) := by unfold Program.fieldsOf; rw [Tryd.underlying36]
  rw [run_eql_struct, show (10000 : Nat) = 9999 + 1 from rfl, run_equalIn_struct w 9999 _ _ _ hf (by kernel_rfl)]
  have q0 : (part 2 (conA l s x d) 0).run Tryd.prog w = .ok (.int .i64 l) w := by kernel_rfl
  have q1 : (part 2 (conA l s x d) 1).run Tryd.prog w = .ok (.int .i64 s) w := by kernel_rfl
  have q2 : (part 2 (conA l s x d) 2).run Tryd.prog w = .ok (.int .i64 x) w := by kernel_rfl
  have q3 : (part 2 (conA l s x d) 3).run Tryd.prog w = .ok (.int .i64 d) w := by kernel_rfl
  have r0 : (part 2 (conA 0 0 0 0) 0).run Tryd.prog w = .ok (.int .i64 0) w := by kernel_rfl
  have r1 : (part 2 (conA 0 0 0 0) 1).run Tryd.prog w = .ok (.int .i64 0) w := by kernel_rfl
  have r2 : (part 2 (conA 0 0 0 0) 2).run Tryd.prog w = .ok (.int .i64 0) w := by kernel_rfl
  have r3 : (part 2 (conA 0 0 0 0) 3).run Tryd.prog w = .ok (.int .i64 0) w := by kernel_rfl
  have e (a : Int) : (Op.equalIn 9999 2 (.int .i64 a) (.int .i64 0)).run Tryd.prog w = .ok (a == 0) w := run_equalIn_int (P := Tryd.prog) w 9998 2 .i64 .i64 a 0 Tryd.underlying2
  unfold Program.fieldsOf
  rw [Tryd.underlying36]
  simp [Op.eqFields, q0, q1, q2, q3, r0, r1, r2, r3, e]
  by_cases h0 : l = 0 <;> by_cases h1 : s = 0 <;> by_cases h2 : x = 0 <;> by_cases h3 : d = 0 <;> simp [h0, h1, h2, h3]
set_option maxHeartbeats 3200000 in
theorem spec_IsContract (l s x d : Int) (w : World) : Calls Tryd.prog 37 #[.agg #[.int .i64 l, .int .i64 s, .int .i64 x, .int .i64 d]] w fun e w' => e = .returned (.bool (isConV l s x d)) ∧ Chg w w' 0 0 := by
  have hce : ∀ V : World, (binOp .eql 36 (.agg #[.int .i64 l, .int .i64 s, .int .i64 x, .int .i64 d]) (.agg #[.int .i64 0, .int .i64 0, .int .i64 0, .int .i64 0])).run Tryd.prog V = .ok (.bool (l == 0 && s == 0 && x == 0 && d == 0)) V := con_eq l s x d
  have C0 : Hid (Chg w (w.alloc (.cells #[.int .i64 l, .int .i64 s, .int .i64 x, .int .i64 d] 36)) 0 0) := Chg.of_alloc w (.cells (conA l s x d) 36) 0 0
  have hbx : Hid ((w.alloc (.cells #[.int .i64 l, .int .i64 s, .int .i64 x, .int .i64 d] 36)).heap[w.heap.size]? = some (.cells #[.int .i64 l, .int .i64 s, .int .i64 x, .int .i64 d] 36 (0, 0))) := heap_alloc_new w _
  by_cases l0 : l = 0
  · subst l0
    have hi : inB 0 1 7 = false := inB_false (by omega)
    by_cases s0 : s = 0
    · subst s0
      by_cases x0 : x = 0
      · subst x0
        by_cases d0 : d = 0
        · subst d0
          go_enter Tryd.func37, Tryd.ntmps37
          go_wp2_with (refine wpList_load_row rfl 36 _ rfl w.heap.size rfl 36 _ (0, 0) _ hbx.out Tryd.underlying36 rfl (by kernel_rfl) ?_)
          go_ret
          exact ⟨rfl, C0.out⟩
        · have db : (d == 0) = false := by simpa using d0
          have hr : Hid (isConV 0 0 0 d = false) := by show _ = _; unfold isConV; rw [hi, db]; rfl
          clear d0
          go_enter Tryd.func37, Tryd.ntmps37
          go_wp2_with (first | (refine wpList_load_row rfl 36 _ rfl w.heap.size rfl 36 _ (0, 0) _ hbx.out Tryd.underlying36 rfl (by kernel_rfl) ?_) | (go_at_call 33; refine (l01In _ _ _ _).mono ?_; rintro e w' ⟨rfl, rfl⟩))
          go_ret
          exact ⟨ret_bool hr.out.symm, C0.out⟩
      · have db : (x == 0) = false := by simpa using x0
        have hr : Hid (isConV 0 0 x d = false) := by show _ = _; unfold isConV; rw [hi, db]; simp
        clear x0
        go_enter Tryd.func37, Tryd.ntmps37
        go_wp2_with (first | (refine wpList_load_row rfl 36 _ rfl w.heap.size rfl 36 _ (0, 0) _ hbx.out Tryd.underlying36 rfl (by kernel_rfl) ?_) | (go_at_call 33; refine (l01In _ _ _ _).mono ?_; rintro e w' ⟨rfl, rfl⟩))
        go_ret
        exact ⟨ret_bool hr.out.symm, C0.out⟩
    · have db : (s == 0) = false := by simpa using s0
      have hr : Hid (isConV 0 s x d = false) := by show _ = _; unfold isConV; rw [hi, db]; simp
      clear s0
      go_enter Tryd.func37, Tryd.ntmps37
      go_wp2_with (first | (refine wpList_load_row rfl 36 _ rfl w.heap.size rfl 36 _ (0, 0) _ hbx.out Tryd.underlying36 rfl (by kernel_rfl) ?_) | (go_at_call 33; refine (l01In _ _ _ _).mono ?_; rintro e w' ⟨rfl, rfl⟩))
      go_ret
      exact ⟨ret_bool hr.out.symm, C0.out⟩
  · have lb : (l == 0) = false := by simpa using l0
    have hr : Hid (isConV l s x d = (inB l 1 7 && inB s 0 4 && inB x 0 2 && inB d 0 3)) := by show _ = _; unfold isConV; rw [lb]; simp
    clear l0
    cases h1 : inB l 1 7
    · have hr' : Hid (isConV l s x d = false) := by show _ = _; rw [hr.out, h1]; rfl
      go_enter Tryd.func37, Tryd.ntmps37
      go_wp2_with (first | (refine wpList_load_row rfl 36 _ rfl w.heap.size rfl 36 _ (0, 0) _ hbx.out Tryd.underlying36 rfl (by kernel_rfl) ?_) | (go_at_call 33; refine (l01In _ _ _ _).mono ?_; rintro e w' ⟨rfl, rfl⟩))
      go_ret
      exact ⟨ret_bool hr'.out.symm, C0.out⟩
    cases h2 : inB s 0 4
    · have hr' : Hid (isConV l s x d = false) := by show _ = _; rw [hr.out, h1, h2]; rfl
      go_enter Tryd.func37, Tryd.ntmps37
      go_wp2_with (first | (refine wpList_load_row rfl 36 _ rfl w.heap.size rfl 36 _ (0, 0) _ hbx.out Tryd.underlying36 rfl (by kernel_rfl) ?_) | (go_at_call 33; refine (l01In _ _ _ _).mono ?_; rintro e w' ⟨rfl, rfl⟩))
      go_ret
      exact ⟨ret_bool hr'.out.symm, C0.out⟩
    cases h3 : inB x 0 2
    · have hr' : Hid (isConV l s x d = false) := by show _ = _; rw [hr.out, h1, h2, h3]; rfl
      go_enter Tryd.func37, Tryd.ntmps37
      go_wp2_with (first | (refine wpList_load_row rfl 36 _ rfl w.heap.size rfl 36 _ (0, 0) _ hbx.out Tryd.underlying36 rfl (by kernel_rfl) ?_) | (go_at_call 33; refine (l01In _ _ _ _).mono ?_; rintro e w' ⟨rfl, rfl⟩))
      go_ret
      exact ⟨ret_bool hr'.out.symm, C0.out⟩
    have hr' : Hid (isConV l s x d = inB d 0 3) := by show _ = _; rw [hr.out, h1, h2, h3]; rfl
    go_enter Tryd.func37, Tryd.ntmps37
    go_wp2_with (first | (refine wpList_load_row rfl 36 _ rfl w.heap.size rfl 36 _ (0, 0) _ hbx.out Tryd.underlying36 rfl (by kernel_rfl) ?_) | (go_at_call 33; refine (l01In _ _ _ _).mono ?_; rintro e w' ⟨rfl, rfl⟩))
    go_ret
    exact ⟨ret_bool hr'.out.symm, C0.out⟩

end Go.Proofs.YtnkbcmkngghnoaaDoor.Lib1
