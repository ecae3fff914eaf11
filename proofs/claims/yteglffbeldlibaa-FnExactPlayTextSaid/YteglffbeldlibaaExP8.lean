/- Chapter 8: what the exact laws take of plays: copied, sized, compared, marked, held. (Written by wip/gen8p.py.) -/
import Derived.Test.YteglffbeldlibaaPlayM8
import Derived.ChangeSame
import Derived.Lib.SmallJoins
import Derived.Deep.MidRow
namespace Go.Proofs.Yteglffbeldlibaa.Lib1
open Go.RowKit
set_option maxRecDepth 100000

theorem plinfo (st ld : Int) (A : Option Addr) (n c : Nat) : (Try.prog.info? 52).map (·.size) = some (#[.int .i64 st, .int .i64 ld, .slice A n c] : Array Value).size := by kernel_rfl
theorem plinfoL (st ld : Int) (v : Value) : (Try.prog.info? 52).map (·.size) = some ([.int .i64 st, .int .i64 ld, v] : List Value).length := by kernel_rfl
theorem szPlay (st ld : Int) (A : Option Addr) (n c : Nat) (k : Int) (w : World) (h0 : 0 ≤ k) (h1 : k ≤ 1048576) (hn : n ≤ maxLen) :
    Calls Try.prog 40 #[.agg #[.int .i64 st, .int .i64 ld, .slice A n c], .int .i64 k] w fun e w' => (∃ v : Int, e = .returned (.int .i64 v) ∧ (v < 0 ∨ (¬ v < 0 ∧ (n : Int) ≤ k))) ∧ Chg w w' 0 0 := by
  have ca := Lib.hid (Chg.of_alloc w (.cells #[.int .i64 st, .int .i64 ld, .slice A n c] 52) 0 0)
  by_cases hk : (n : Int) ≤ k
  · have hv : ¬ k - (n : Int) < 0 := by omega
    go_enter Try.func40, Try.ntmps40
    go_wp2_with (go_at_call 103; refine (szInt64S _ _ _ _ _ h0 h1 hn).mono ?_; rw [if_pos hk]; rintro e w' ⟨rfl, rfl⟩)
    go_ret
    refine ⟨⟨_, rfl, ?_⟩, ca.out⟩
    omega
  · go_enter Try.func40, Try.ntmps40
    go_wp2_with (go_at_call 103; refine (szInt64S _ _ _ _ _ h0 h1 hn).mono ?_; rw [if_neg hk]; rintro e w' ⟨rfl, rfl⟩)
    go_ret
    exact ⟨⟨_, rfl, .inl (by omega)⟩, ca.out⟩
theorem eqPlay (st ld : Int) (A B : Option Addr) (n m c k : Nat) (zs : List Int) (lo hi lo' hi' : Nat) (w : World) (h : Rd w lo hi A n zs) (h' : Rd w lo' hi' B m zs) (hn : n ≤ 1048576) :
    Calls Try.prog 42 #[.agg #[.int .i64 st, .int .i64 ld, .slice A n c], .agg #[.int .i64 st, .int .i64 ld, .slice B m k]] w fun e w' => e = .returned (.bool true) ∧ Chg w w' 0 0 := by
  have ca := Lib.hid ((Chg.of_alloc w (.cells #[.int .i64 st, .int .i64 ld, .slice A n c] 29) 0 0).trans (Chg.of_alloc (w.alloc (.cells #[.int .i64 st, .int .i64 ld, .slice A n c] 29)) (.cells #[.int .i64 st, .int .i64 ld, .slice B m k] 29) 0 0))
  have H := h.still ca.out
  have H' := h'.still ca.out
  clear h h'
  go_enter Try.func42, Try.ntmps42
  go_wp2_with fail
  refine (eqInt64S A B n m c k zs _ _ _ _ _ H H' hn).mono ?_
  rintro e w2 ⟨rfl, c2⟩
  have C2 := Lib.hid (ca.out.trans c2)
  clear c2
  go_wp2
  go_ret
  exact ⟨rfl, C2.out⟩
theorem markPlay (st ld : Int) (A : Option Addr) (n c : Nat) (zs : List Int) (lo hi : Nat) (s : Nat) (w : World) (h : Own w lo hi A n zs) (hn : n ≤ 1048576) (hs : s ≤ 1048576) :
    Calls Try.prog 48 #[.agg #[.int .i64 st, .int .i64 ld, .slice A n c], .int .i64 (s : Int)] w fun e w' => e = .returned (.int .i64 ((s + n : Nat) : Int)) ∧ Own w' lo hi A n (marks s n) ∧ Chg w w' lo hi := by
  have ca := Lib.hid (Chg.of_alloc w (.cells #[.int .i64 st, .int .i64 ld, .slice A n c] 29) lo hi)
  have H := h.chg (Chg.of_alloc w (.cells #[.int .i64 st, .int .i64 ld, .slice A n c] 29) 0 0) (.inr (Nat.zero_le _))
  go_enter Try.func48, Try.ntmps48
  go_wp2_with fail
  refine (markInt64S A n c s zs lo hi _ H hn hs).mono ?_
  rintro e w2 ⟨rfl, o2, c2, _⟩
  have C2 := Lib.hid (ca.out.trans c2)
  have O2 := Lib.hid o2
  clear c2 o2
  go_wp2
  go_ret
  exact ⟨rfl, O2.out, C2.out⟩
theorem heldPlay (st ld : Int) (A : Option Addr) (n c : Nat) (lo hi : Nat) (s : Nat) (w : World) (h : Rd w lo hi A n (marks s n)) (hn : n ≤ 1048576) (hs : s ≤ 1048576) :
    Calls Try.prog 54 #[.agg #[.int .i64 st, .int .i64 ld, .slice A n c], .int .i64 (s : Int)] w fun e w' => e = .returned (.int .i64 ((s + n : Nat) : Int)) ∧ Chg w w' 0 0 := by
  have ca := Lib.hid (Chg.of_alloc w (.cells #[.int .i64 st, .int .i64 ld, .slice A n c] 29) 0 0)
  have H := h.still ca.out
  have h0 : ¬ ((s + n : Nat) : Int) < 0 := by omega
  go_enter Try.func54, Try.ntmps54
  go_wp2_with fail
  refine (heldInt64S A n c s lo hi _ H hn hs).mono ?_
  rintro e w2 ⟨rfl, rfl⟩
  go_wp2
  go_ret
  exact ⟨rfl, ca.out⟩
set_option maxHeartbeats 1600000 in
theorem toPlay (st ld : Int) (A : Option Addr) (n c : Nat) (zs : List Int) (lo hi : Nat) (w : World) (h : Rd w lo hi A n zs) (hn : n ≤ 1048576) :
    Calls Try.prog 41 #[.agg #[.int .i64 st, .int .i64 ld, .slice A n c]] w fun e w' => ∃ g, e = .returned (.agg #[.int .i64 st, .int .i64 ld, .slice (some ⟨g, 0, none⟩) n n]) ∧ Own w' w.heap.size w'.heap.size (some ⟨g, 0, none⟩) n zs ∧ Chg w w' 0 0 := by
  have e1 : (w.alloc (.cells #[.int .i64 st, .int .i64 ld, .slice A n c] 52)).heap.size = w.heap.size + 1 := by simp
  have e2 : ((w.alloc (.cells #[.int .i64 st, .int .i64 ld, .slice A n c] 52)).alloc (.cells #[.int .i64 0, .int .i64 0, .slice none 0 0] 29)).heap.size = w.heap.size + 1 + 1 := by simp
  have c1 := Chg.of_alloc w (.cells #[.int .i64 st, .int .i64 ld, .slice A n c] 52) 0 0
  have c2 := Chg.of_alloc (w.alloc (.cells #[.int .i64 st, .int .i64 ld, .slice A n c] 52)) (.cells #[.int .i64 0, .int .i64 0, .slice none 0 0] 29) 0 0
  have c3 := Chg.of_alloc ((w.alloc (.cells #[.int .i64 st, .int .i64 ld, .slice A n c] 52)).alloc (.cells #[.int .i64 0, .int .i64 0, .slice none 0 0] 29)) (.cells #[.int .i64 st, .int .i64 ld, .slice none 0 0] 29) 0 0
  have z1 := (SBox.new (w.alloc (.cells #[.int .i64 st, .int .i64 ld, .slice A n c] 52)) 29 #[.int .i64 0, .int .i64 0, .slice none 0 0]).still c3
  have z2 := SBox.new ((w.alloc (.cells #[.int .i64 st, .int .i64 ld, .slice A n c] 52)).alloc (.cells #[.int .i64 0, .int .i64 0, .slice none 0 0] 29)) 29 #[.int .i64 st, .int .i64 ld, .slice none 0 0]
  rw [e1] at z1
  rw [e2] at z2
  have C0 := Lib.hid ((c1.trans c2).trans c3)
  have Z1 := Lib.hid z1
  have Z2 := Lib.hid z2
  have H := Lib.hid (h.still C0.out)
  clear h e1 e2 c1 c2 c3 z1 z2
  go_enter Try.func41, Try.ntmps41
  go_wp2_with fail
  generalize ((w.alloc (.cells #[.int .i64 st, .int .i64 ld, .slice A n c] 52)).alloc (.cells #[.int .i64 0, .int .i64 0, .slice none 0 0] 29)).alloc (.cells #[.int .i64 st, .int .i64 ld, .slice none 0 0] 29) = W at C0 Z1 Z2 H ⊢
  refine (toInt64S A n c zs lo hi _ H.out hn).mono ?_
  rintro e w1 ⟨rfl, o1, c1⟩
  have z0 := C0.out.size
  obtain ⟨q, hq⟩ : ∃ q, q = W.heap.size := ⟨_, rfl⟩
  rw [← hq] at o1 ⊢
  have hqs : w.heap.size + 1 + 1 < q := by have := Z2.out.lt; omega
  have Z1 := Lib.hid (Z1.out.still c1)
  have Z2 := Lib.hid (Z2.out.still c1)
  have C1 := Lib.hid (C0.out.trans c1)
  have O1 := Lib.hid o1
  have q1 : w1.cell? ⟨w.heap.size + 1 + 1, 2, none⟩ = some (.slice none 0 0) := by rw [Z2.out.cell]; rfl
  have f1 : w1.frozen? ⟨w.heap.size + 1 + 1, 2, none⟩ = false := by have := Z2.out; unfold SBox at this; simp [World.frozen?, this]
  have Z3 := Lib.hid (show SBox (w1.setCell ⟨w.heap.size + 1 + 1, 2, none⟩ (.slice (some ⟨q, 0, none⟩) n n)) 29 (w.heap.size + 1 + 1) #[.int .i64 st, .int .i64 ld, .slice (some ⟨q, 0, none⟩) n n] from set_heapS Z2.out 2 _)
  have Z4 := Lib.hid (show SBox (w1.setCell ⟨w.heap.size + 1 + 1, 2, none⟩ (.slice (some ⟨q, 0, none⟩) n n)) 29 (w.heap.size + 1) #[.int .i64 0, .int .i64 0, .slice none 0 0] from (set_otherS _ _ _ _ _ (by omega)).trans Z1.out)
  have K := Lib.hid ((C1.out.setS (i := 2) (v := .slice (some ⟨q, 0, none⟩) n n) (show w.heap.size ≤ w.heap.size + 1 + 1 by omega)).rowC (show w.heap.size ≤ w.heap.size + 1 by omega) #[.int .i64 st, .int .i64 ld, .slice (some ⟨q, 0, none⟩) n n])
  have RS := Lib.hid (setRow_heap _ _ _ #[.int .i64 st, .int .i64 ld, .slice (some ⟨q, 0, none⟩) n n] _ _ Z4.out)
  have O3 := Lib.hid (show Own ((w1.setCell ⟨w.heap.size + 1 + 1, 2, none⟩ (.slice (some ⟨q, 0, none⟩) n n)).setRow (w.heap.size + 1) #[.int .i64 st, .int .i64 ld, .slice (some ⟨q, 0, none⟩) n n]) w.heap.size ((w1.setCell ⟨w.heap.size + 1 + 1, 2, none⟩ (.slice (some ⟨q, 0, none⟩) n n)).setRow (w.heap.size + 1) #[.int .i64 st, .int .i64 ld, .slice (some ⟨q, 0, none⟩) n n]).heap.size (some ⟨q, 0, none⟩) n zs from by
    obtain ⟨ol, oc⟩ := O1.out
    refine ⟨ol, fun hn0 => ?_⟩
    obtain ⟨b, cs, e, h1, h2, h3, h4⟩ := oc hn0
    refine ⟨b, cs, e, by omega, ?_, ?_, h4⟩
    · rw [setRow_size]; simp [World.setCell]; exact h2
    · rw [setRow_other _ _ _ _ (by omega), set_otherS _ _ _ _ _ (by omega)]; exact h3)
  clear c1 o1 C0 H hq hqs z0 C1 O1 Z1 Z2
  go_wp2_with (first | (refine wpList_load_row rfl 29 _ rfl (w.heap.size + 1 + 1) rfl 29 #[.int .i64 st, .int .i64 ld, .slice (some ⟨q, 0, none⟩) n n] (0, 0) _ Z3.out Try.underlying29 rfl (play_info _ _ _ _ _) ?_) | (refine wpList_store_row rfl 29 _ _ rfl (w.heap.size + 1) #[.int .i64 st, .int .i64 ld, .slice (some ⟨q, 0, none⟩) n n] rfl rfl 29 #[.int .i64 0, .int .i64 0, .slice none 0 0] Z4.out (play_info _ _ _ _ _) rfl (play_cells _ _ _ _ _) ?_))
  refine bodyPost_ret (v := .agg #[.int .i64 st, .int .i64 ld, .slice (some ⟨q, 0, none⟩) n n]) (results_cell_row Try.results41 _ _ (w.heap.size + 1) 29 #[.int .i64 st, .int .i64 ld, .slice (some ⟨q, 0, none⟩) n n] (0, 0) _ rfl RS.out Try.underlying29 rfl (play_info _ _ _ _ _)) rfl ?_
  exact ⟨q, rfl, O3.out, K.out⟩
/-- A law's argument that is a play. -/
theorem open_play {H : Type} {enc : TypeId × Value → H} {w : World} {held : Bool} {r : Reach} {b0 : Nat} {v : Value} {x : DataW H} {p : List MemPlace} (hv : Value.okWide Try.prog w r b0 52 v) (h : DataW.Trod enc Try.prog w 0 (fun _ => true) held 52 v x p) :
    ∃ s d A n c zs, v = .agg #[.int .i64 s, .int .i64 d, .slice A n c] ∧ Rd w 0 w.heap.size A n zs ∧ n ≤ maxLen := by
  have hC : Try.prog.cellsOf 52 = 3 := by kernel_rfl
  obtain ⟨c0, c1, c2, y0, y1, y2, m, rfl, rfl, rfl, hy0, hy1, hy2⟩ := Go.Joins.open_agg3 Try.underlying52 (by kernel_rfl) hC hv h
  obtain ⟨a, e0, rfl, _⟩ := DataW.trod_int Try.underlying2 hy0
  obtain rfl : c0 = .int .i64 a := by simpa using e0
  obtain ⟨b, e1, rfl, _⟩ := DataW.trod_int Try.underlying2 hy1
  obtain rfl : c1 = .int .i64 b := by simpa using e1
  rcases Go.ChangeShapes.open_ints Try.underlying27 Try.underlying2 (by kernel_rfl) hy2 with ⟨e, _⟩ | ⟨x, l, c, zs, e, _, hl, hm, hz, _, hcell, hwz⟩
  · obtain rfl : c2 = .slice none 0 0 := by simpa using e
    exact ⟨a, b, none, 0, 0, [], rfl, Rd.none_, by unfold maxLen; omega⟩
  · obtain rfl : c2 = .slice (some x) l c := by simpa using e
    exact ⟨a, b, some x, l, c, _, rfl, Rd.of_arg (.inr ⟨x, rfl, hl, hm, by simpa using hz, hcell, hwz⟩), by omega⟩
end Go.Proofs.Yteglffbeldlibaa.Lib1
