/- Chapter 5: the program's completeOrder, which calls itself, hands over lists of suits and writes its own list between two of them. -/
import Derived.Test.YteojdlacdnfgiaaRange5
import Derived.Test.YteojdlacdnfgiaaLists5
import Derived.Test.YteojdlacdnfgiaaMapE
import Derived.Test.YteojdlacdnfgiaaSetR5
import Derived.Deep.RegionWith
import Derived.Lib.Hide
namespace Go.Proofs.Yteojdlacdnfgiaa.Lib1
open Go.RowKit
set_option maxRecDepth 100000

def ordA (o : List Int) : Array Value := (o.map (Value.int .i64)).toArray
def ordE (o : List Int) : Array Value := #[.agg (ordA o)]
theorem ordA_size (o : List Int) : (ordA o).size = o.length := by simp [ordA]
theorem ord_info {o : List Int} (h : o.length = 4) : (Try.prog.info? 81).map (·.size) = some (ordA o).size := by rw [ordA_size, h]; kernel_rfl
theorem ord_cells (o : List Int) : (ordA o).all (·.oneCell') = true := by
  rw [Array.all_eq_true_iff_forall_mem]
  intro v hv
  simp only [ordA, List.mem_toArray, List.mem_map] at hv
  obtain ⟨z, _, rfl⟩ := hv
  rfl
theorem ordA_at (o : List Int) {i : Nat} (hi : i < o.length) : (ordA o)[i]? = some (.int .i64 (o.getD i 0)) := by
  simp only [ordA, List.getElem?_toArray, List.getElem?_map, List.getElem?_eq_getElem hi, Option.map_some]
  rw [getD_at _ _ hi]
theorem ordA_set (o : List Int) (i : Nat) (x : Int) : (ordA o).setIfInBounds i (.int .i64 x) = ordA (o.set i x) := by
  apply Array.ext'
  simp [ordA, List.map_set]
/-- A list of suits in a block of its own. -/
def OrdAt (w : World) (b : Nat) (o : List Int) : Prop := w.heap[b]? = some (.cells (ordA o) 81 (0, 0))
theorem OrdAt.new (w : World) (o : List Int) : OrdAt (w.alloc (.cells (ordA o) 81)) w.heap.size o := heap_alloc_new w _
theorem OrdAt.lt {w : World} {b : Nat} {o : List Int} (h : OrdAt w b o) : b < w.heap.size := lt_of_block h
theorem OrdAt.keep {w w' : World} {b : Nat} {o : List Int} (h : OrdAt w b o) (k : KeepT 81 w w') : OrdAt w' b o := k.2 _ _ _ h
theorem OrdAt.cell {w : World} {b : Nat} {o : List Int} (h : OrdAt w b o) {i : Nat} (hi : i < o.length) : w.cell? ⟨b, i, none⟩ = some (.int .i64 (o.getD i 0)) := by
  rw [cell_of_row _ _ _ _ _ _ h]; exact ordA_at o hi
theorem OrdAt.frozen {w : World} {b : Nat} {o : List Int} (h : OrdAt w b o) (i : Nat) : w.frozen? ⟨b, i, none⟩ = false := by simp [World.frozen?, show w.heap[b]? = _ from h]
theorem OrdAt.set {w : World} {b : Nat} {o : List Int} (h : OrdAt w b o) (i : Nat) (x : Int) : OrdAt (w.setCell ⟨b, i, none⟩ (.int .i64 x)) b (o.set i x) := by
  unfold OrdAt
  rw [← ordA_set]
  simp [World.setCell, Array.getElem?_modify, show w.heap[b]? = _ from h]
theorem OrdAt.rd {w : World} {b : Nat} {o : List Int} (h : OrdAt w b o) {n : Nat} (hn : n ≤ o.length) : Rd w 0 w.heap.size (some ⟨b, 0, none⟩) n (o.take n) :=
  ⟨by rw [List.length_take]; omega, fun _ => ⟨b, 0, rfl, Nat.zero_le _, h.lt, fun j hj => by
    rw [Nat.zero_add, h.cell (show j < o.length by omega)]
    congr 2
    simp only [List.getD_eq_getElem?_getD, List.getElem?_take_of_lt hj]⟩⟩
theorem KeepT.own {T : TypeId} {X Y : World} {b i : Nat} (h : KeepT T X Y) (hb : X.heap.size ≤ b) (v : Value) : KeepT T X (Y.setCell ⟨b, i, none⟩ v) := by
  refine ⟨by simpa [World.setCell] using h.1, fun k cs fr hk => (Below.heap_setCell _ _ _ _ ?_).trans (h.2 k cs fr hk)⟩
  have := lt_of_block hk
  show k ≠ b
  omega
/-- An operation that is no defer and no call of yield, by its plain law. -/
theorem oper_wide {n : Nat} {P : Program} {o : Oper} {a : Act} {w : World} {K : Act → World → Prop} {Q : Exit → Act → World → Prop} (h : o.wp P a w K Q) : o.wpIn Fence.wide n P a w K Q := by
  refine ⟨fun _ _ => trivial, ?_⟩
  unfold Oper.wp at h
  rw [show o.semAt Fence.wide.round a.eval = execOp a.eval o from Oper.semAt_none _ _]
  generalize (execOp a.eval o).run P w = r at h
  cases r with
  | ok nx w' =>
    cases nx with
    | value v => exact h
    | skip => exact h
    | defer d => exact h
    | enter f args => exact ⟨(fun q => by cases q), callsIn_wide.2 h⟩
    | row row args =>
      refine ⟨(fun q => by cases q), fun c cs _ => ?_⟩
      obtain ⟨v, w'', r, s⟩ := h c cs
      exact ⟨v, w'', r, stepsIn_wide.2 s⟩
    | round l f tmps assign body => exact h.elim
    | _ => exact h.elim
  | halt x w' =>
    cases x with
    | panic v => exact h
    | _ => exact h.elim

theorem compS_pre (strain : Int) (place : Nat) (rec : List Int → List (List Int)) (o : List Int) {k : Nat} : ∀ {m : Nat}, k ≤ m → ∃ q, compS strain place rec o m = compS strain place rec o k ++ q
  | 0, h => ⟨[], by obtain rfl : k = 0 := by omega
                    simp⟩
  | m + 1, h => by
    by_cases e : k = m + 1
    · subst e; exact ⟨[], by simp⟩
    · obtain ⟨q, hq⟩ := compS_pre strain place rec o (m := m) (show k ≤ m by omega)
      exact ⟨_, by rw [compS, hq, List.append_assoc]⟩

section
variable {l B : Nat} {xs : List (List Int)} {J : List (List Int) → World → Prop} (hJ : Stays 81 B J)
  (hY : ∀ m pre (x : List Int) W, (∃ r, xs = pre ++ x :: r) → J pre W → YieldAt Fence.wide m Try.prog l (ordE x) W fun e W' => e = .returned (.bool true) ∧ J (pre ++ [x]) W' ∧ KeepT 81 W W')
include hJ hY

theorem complete_end (strain : Int) (o : List Int) (h4 : o.length = 4) (pre : List (List Int)) (w : World) (hx : ∃ r, xs = pre ++ o :: r) (h : J pre w) :
    Calls Try.prog 101 #[.agg (ordA o), .int .i64 4, .int .i64 strain, .func (.yield l) #[] #[]] w fun e w' => e = .returned (.bool true) ∧ J (pre ++ [o]) w' ∧ KeepT 81 w w' := by
  have O := Lib.hid (heap_alloc_new w (.cells (ordA o) 81))
  have HJ := Lib.hid (hJ _ _ _ h (Turns.alloc _ _ w (.cells (ordA o) 81)))
  have HI := Lib.hid (ord_info h4)
  have K0 := Lib.hid (KeepT.alloc 81 w (.cells (ordA o) 81))
  have HY := Lib.hid hY
  clear hJ hY h
  refine (callsIn_wide (n := 3)).1 (callsIn_of_wp Try.func101 rfl trivial ?_ rfl)
  simp only [Try.ntmps101, List.size_toArray, List.length_cons, List.length_nil, Nat.reduceAdd, Nat.reduceSub, Array.replicate_succ, Array.replicate_zero, List.push_toArray, List.append_toArray, List.nil_append, List.cons_append]
  obtain ⟨fn, tmps, assign, body, hy', hR⟩ := HY.out 2 pre o _ hx HJ.out
  dsimp only [ordE] at hy'
  clear HY
  generalize ordA o = R at O HI hy' hR K0 HJ ⊢
  gi_wp2_with (refine oper_wide (wp_load_row 81 _ rfl w.heap.size rfl 81 R (0, 0) _ O.out Try.underlying81 rfl HI.out ?_))
  refine hR.mono ?_
  rintro e W3 ⟨rfl, hJ3, hk3⟩
  gi_wp2
  go_ret
  exact ⟨rfl, hJ3, K0.out.trans hk3⟩
omit hY in
set_option maxHeartbeats 2000000 in
theorem complete_step (strain : Int) (place : Nat) (hp : place < 4) (rec : List Int → List (List Int))
    (IH : ∀ (o : List Int) (pre : List (List Int)) (w : World), o.length = 4 → B ≤ w.heap.size → (∃ r, xs = pre ++ (rec o ++ r)) → J pre w → Calls Try.prog 101 #[.agg (ordA o), .int .i64 ((place : Int) + 1), .int .i64 strain, .func (.yield l) #[] #[]] w fun e w' => e = .returned (.bool true) ∧ J (pre ++ rec o) w' ∧ KeepT 81 w w')
    (o : List Int) (h4 : o.length = 4) (pre : List (List Int)) (w : World) (hB : B ≤ w.heap.size) (hx : ∃ r, xs = pre ++ (compS strain place rec o 4 ++ r)) (h : J pre w) :
    Calls Try.prog 101 #[.agg (ordA o), .int .i64 (place : Int), .int .i64 strain, .func (.yield l) #[] #[]] w fun e w' => e = .returned (.bool true) ∧ J (pre ++ compS strain place rec o 4) w' ∧ KeepT 81 w w' := by
  have O0 := Lib.hid (OrdAt.new w o)
  have HJ := Lib.hid (hJ _ _ _ h (Turns.alloc _ _ w (.cells (ordA o) 81)))
  have K0 := Lib.hid (KeepT.alloc 81 w (.cells (ordA o) 81))
  have hset : Hid (o = o.set place (o.getD place 0)) := by
    show _ = _
    apply List.ext_getElem (by simp)
    intro i h1 h2
    rw [List.getElem_set]
    split
    · rename_i e; subst e; rw [getD_at _ _ h1]
    · rfl
  have hne : ((place : Int) == 4) = false := by simp; omega
  have hpI : (place : Int) < 4 := by omega
  have hp4 : (place : Int) ≤ 4 := by omega
  have H4 := Lib.hid h4
  have HIH := Lib.hid IH
  have HS := Lib.hid hJ
  have HB := Lib.hid hB
  have HX := Lib.hid hx
  clear h IH hJ h4 hB hx
  go_enter Try.func101, Try.ntmps101
  go_wp2_with fail
  go_loopw [16] (fun i wr => ∃ k : Nat, k ≤ 4 ∧ i = .int .i64 k ∧ ∃ v : Int, Hid (OrdAt wr w.heap.size (o.set place v)) ∧ Hid (J (pre ++ compS strain place rec o k) wr) ∧ Hid (KeepT 81 w wr)) (fun i _ => 4 - (intOf i).toNat)
  case atStart => exact ⟨0, by omega, rfl, o.getD place 0, by rw [← hset.out]; exact O0.out, by show J (pre ++ []) _; rw [List.append_nil]; exact HJ.out, K0.out⟩
  case round =>
    clear O0 HJ K0 hset
    obtain ⟨k, hk, rfl, v, O, HJ, K⟩ := hrel
    by_cases hkl : k < 4
    · have hkI : (k : Int) < 4 := by omega
      have hstep : Hid (stepO strain place k o = ((((place : Int) == strain) == ((k : Int) == strain)) && !hasB (o.take place) (k : Int))) := by show _ = _; rfl
      have hnext : Hid (compS strain place rec o (k + 1) = compS strain place rec o k ++ if stepO strain place k o then rec (o.set place (k : Int)) else []) := rfl
      have hle : place ≤ (o.set place v).length := by rw [List.length_set, H4.out]; omega
      have hrd := Lib.hid (O.out.rd hle)
      have htk : Hid ((o.set place v).take place = o.take place) := by
        show _ = _
        apply List.ext_getElem (by simp)
        intro i h1 h2
        rw [List.getElem_take, List.getElem_take, List.getElem_set_ne]
        have : i < place := by simp at h1; omega
        omega
      rw [htk.out] at hrd
      clear hle htk
      generalize hb1 : ((place : Int) == strain) = b1 at hstep
      generalize hb2 : ((k : Int) == strain) = b2 at hstep
      have go_on : stepO strain place k o = false → Hid (J (pre ++ compS strain place rec o (k + 1)) wr) := fun e => by
        show J _ _
        rw [hnext.out, e]
        simpa using HJ.out
      cases b1 <;> cases b2
      case false.true =>
        have HG := Lib.hid (go_on (by rw [hstep.out]; rfl))
        clear hstep hnext go_on
        go_wp2_with fail
        go_roundw
        case rel => exact ⟨k + 1, by omega, by go_num, v, O, HG.out, K⟩
        case measure => simp [intOf]; omega
      case true.false =>
        have HG := Lib.hid (go_on (by rw [hstep.out]; rfl))
        clear hstep hnext go_on
        go_wp2_with fail
        go_roundw
        case rel => exact ⟨k + 1, by omega, by go_num, v, O, HG.out, K⟩
        case measure => simp [intOf]; omega
      all_goals
        cases hc : hasB (o.take place) (k : Int) with
        | true =>
          have HG := Lib.hid (go_on (by rw [hstep.out, hc]; rfl))
          have hcon := Lib.hid (Contains64 (some ⟨w.heap.size, 0, none⟩) place 4 (k : Int) (o.take place) 0 wr.heap.size wr hrd.out (by omega))
          rw [hc] at hcon
          clear hstep hnext go_on hc
          go_wp2_with fail
          refine hcon.out.mono ?_
          rintro e w' ⟨rfl, rfl⟩
          go_wp2_with fail
          go_roundw
          case rel => exact ⟨k + 1, by omega, by go_num, v, O, HG.out, K⟩
          case measure => simp [intOf]; omega
        | false =>
          have HN : Hid (compS strain place rec o (k + 1) = compS strain place rec o k ++ rec (o.set place (k : Int))) := by show _ = _; rw [hnext.out, hstep.out, hc]; rfl
          have hcon := Lib.hid (Contains64 (some ⟨w.heap.size, 0, none⟩) place 4 (k : Int) (o.take place) 0 wr.heap.size wr hrd.out (by omega))
          rw [hc] at hcon
          have O2 := Lib.hid (O.out.set place (k : Int))
          rw [List.set_set] at O2
          have HJ2 := Lib.hid (HS.out _ _ _ HJ.out (Turns.set (i := place) O.out HB.out (.int .i64 (k : Int))))
          have K2 := Lib.hid (K.out.own (b := w.heap.size) (i := place) (Nat.le_refl _) (.int .i64 (k : Int)))
          have hl4 : (o.set place (k : Int)).length = 4 := by rw [List.length_set]; exact H4.out
          have hpr : ∃ r, xs = pre ++ compS strain place rec o k ++ (rec (o.set place (k : Int)) ++ r) := by
            obtain ⟨r, hr⟩ := HX.out
            obtain ⟨q, hq⟩ := compS_pre strain place rec o (show k + 1 ≤ 4 by omega)
            exact ⟨q ++ r, by rw [hr, hq, HN.out]; simp [List.append_assoc]⟩
          have hih := Lib.hid (HIH.out (o.set place (k : Int)) _ _ hl4 (Nat.le_trans HB.out K2.out.1) hpr HJ2.out)
          have hI := Lib.hid (ord_info hl4)
          have q1 := O.out.cell (i := place) (by rw [List.length_set, H4.out]; exact hp)
          have q2 := O.out.frozen place
          clear hstep hnext go_on hc HJ2 hl4 HJ hrd hpr
          go_wp2_with (first | (go_at_call 133; refine hcon.out.mono ?_; rintro e w' ⟨rfl, rfl⟩) | (refine wpList_load_row rfl 81 _ rfl w.heap.size rfl 81 (ordA (o.set place (k : Int))) (0, 0) _ O2.out Try.underlying81 rfl hI.out ?_) | (go_at_call 101; refine hih.out.mono ?_; rintro e w5 ⟨rfl, j5, k5⟩))
          have HJ5 : Hid (J (pre ++ compS strain place rec o (k + 1)) w5) := by show J _ _; rw [HN.out, ← List.append_assoc]; exact j5
          have O5 := Lib.hid (O2.out.keep k5)
          have K5 := Lib.hid (K2.out.trans k5)
          go_wp2_with fail
          go_roundw
          case rel => exact ⟨k + 1, by omega, by go_num, (k : Int), O5.out, HJ5.out, K5.out⟩
          case measure => simp [intOf]; omega
    · obtain rfl : k = 4 := by omega
      go_wp2_with fail
      go_ret
      exact ⟨rfl, HJ.out, K.out⟩
end

end Go.Proofs.Yteojdlacdnfgiaa.Lib1
