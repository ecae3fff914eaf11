/- Chapter 7: what the exact laws take of auctions and contracts: copied, sized, compared, marked, held. -/
import Derived.Test.YtnkbcmkngghnoaaDoorAucU7
import Derived.Test.YtnkbcmkngghnoaaDoorSBox
import Derived.ChangeSame
import Derived.Lib.SmallJoins
import Derived.Deep.MidRow
namespace Go.Proofs.YtnkbcmkngghnoaaDoor.Lib1
open Go.RowKit
set_option maxRecDepth 100000

theorem linfo (d : Int) (A : Option Addr) (n c : Nat) : (Tryd.prog.info? 39).map (·.size) = some (#[.int .i64 d, .slice A n c] : Array Value).size := by kernel_rfl
theorem clinfo (l s x d : Int) : (Tryd.prog.info? 34).map (·.size) = some (#[.int .i64 l, .int .i64 s, .int .i64 x, .int .i64 d] : Array Value).size := by kernel_rfl

theorem szI7 (A : Option Addr) (n c : Nat) (k : Int) (w : World) (h0 : 0 ≤ k) (h1 : k ≤ 1048576) (hn : n ≤ maxLen) :
    Calls Tryd.prog 44 #[.slice A n c, .int .i64 k] w fun e w' => e = .returned (.int .i64 (if (n : Int) ≤ k then k - n else -1)) ∧ w = w' := by
  unfold maxLen at hn
  by_cases hk : (n : Int) ≤ k
  · rw [if_pos hk]
    go_enter Tryd.func44, Tryd.ntmps44
    go_wp2
    go_ret
    exact ⟨rfl, rfl⟩
  · rw [if_neg hk]
    go_enter Tryd.func44, Tryd.ntmps44
    go_wp2
    go_ret
    exact ⟨rfl, rfl⟩
theorem szAuction (d : Int) (A : Option Addr) (n c : Nat) (w : World) (hn : n ≤ maxLen) :
    Calls Tryd.prog 17 #[.agg #[.int .i64 d, .slice A n c], .int .i64 1048576] w fun e w' => (∃ v : Int, e = .returned (.int .i64 v) ∧ (v < 0 ∨ (¬ v < 0 ∧ n ≤ 1048576))) ∧ Chg w w' 0 0 := by
  have ca := Lib.hid (Chg.of_alloc w (.cells #[.int .i64 d, .slice A n c] 39) 0 0)
  by_cases hk : (n : Int) ≤ 1048576
  · have hv : ¬ (1048576 : Int) - (n : Int) < 0 := by omega
    go_enter Tryd.func17, Tryd.ntmps17
    go_wp2_with (go_at_call 44; refine (szI7 _ _ _ _ _ (by omega) (by omega) hn).mono ?_; rw [if_pos hk]; rintro e w' ⟨rfl, rfl⟩)
    go_ret
    exact ⟨⟨_, rfl, .inr ⟨by omega, by omega⟩⟩, ca.out⟩
  · go_enter Tryd.func17, Tryd.ntmps17
    go_wp2_with (go_at_call 44; refine (szI7 _ _ _ _ _ (by omega) (by omega) hn).mono ?_; rw [if_neg hk]; rintro e w' ⟨rfl, rfl⟩)
    go_ret
    exact ⟨⟨_, rfl, .inl (by omega)⟩, ca.out⟩
theorem eqAuction (d : Int) (A B : Option Addr) (n m c k : Nat) (zs : List Int) (lo hi lo' hi' : Nat) (w : World) (h : Rd w lo hi A n zs) (h' : Rd w lo' hi' B m zs) (hn : n ≤ 1048576) :
    Calls Tryd.prog 20 #[.agg #[.int .i64 d, .slice A n c], .agg #[.int .i64 d, .slice B m k]] w fun e w' => e = .returned (.bool true) ∧ Chg w w' 0 0 := by
  have ca := Lib.hid ((Chg.of_alloc w (.cells #[.int .i64 d, .slice A n c] 26) 0 0).trans (Chg.of_alloc (w.alloc (.cells #[.int .i64 d, .slice A n c] 26)) (.cells #[.int .i64 d, .slice B m k] 26) 0 0))
  have H := h.still ca.out
  have H' := h'.still ca.out
  clear h h'
  go_enter Tryd.func20, Tryd.ntmps20
  go_wp2_with fail
  refine (eqInt64S A B n m c k zs _ _ _ _ _ H H' hn).mono ?_
  rintro e w2 ⟨rfl, c2⟩
  have C2 := Lib.hid (ca.out.trans c2)
  clear c2
  go_wp2
  go_ret
  exact ⟨rfl, C2.out⟩
theorem markAuction (d : Int) (A : Option Addr) (n c : Nat) (zs : List Int) (lo hi : Nat) (w : World) (h : Own w lo hi A n zs) (hn : n ≤ 1048576) :
    Calls Tryd.prog 22 #[.agg #[.int .i64 d, .slice A n c], .int .i64 1] w fun e w' => e = .returned (.int .i64 (1 + (n : Int))) ∧ Own w' lo hi A n (marks 1 n) ∧ Chg w w' lo hi := by
  have ca := Lib.hid (Chg.of_alloc w (.cells #[.int .i64 d, .slice A n c] 26) lo hi)
  have H := h.chg (Chg.of_alloc w (.cells #[.int .i64 d, .slice A n c] 26) 0 0) (.inr (Nat.zero_le _))
  go_enter Tryd.func22, Tryd.ntmps22
  go_wp2_with fail
  refine (mark1 A n c zs lo hi _ H hn).mono ?_
  rintro e w2 ⟨rfl, o2, c2, _⟩
  have C2 := Lib.hid (ca.out.trans c2)
  have O2 := Lib.hid o2
  clear c2 o2
  go_wp2
  go_ret
  exact ⟨rfl, O2.out, C2.out⟩
theorem heldAuction (d : Int) (A : Option Addr) (n c : Nat) (lo hi : Nat) (w : World) (h : Rd w lo hi A n (marks 1 n)) (hn : n ≤ 1048576) :
    Calls Tryd.prog 23 #[.agg #[.int .i64 d, .slice A n c], .int .i64 1] w fun e w' => e = .returned (.int .i64 (1 + (n : Int))) ∧ Chg w w' 0 0 := by
  have ca := Lib.hid (Chg.of_alloc w (.cells #[.int .i64 d, .slice A n c] 26) 0 0)
  have H := h.still ca.out
  have h0 : ¬ (1 : Int) + (n : Int) < 0 := by omega
  go_enter Tryd.func23, Tryd.ntmps23
  go_wp2_with fail
  refine (held1 A n c lo hi _ H hn).mono ?_
  rintro e w2 ⟨rfl, rfl⟩
  go_wp2
  go_ret
  exact ⟨rfl, ca.out⟩

set_option maxHeartbeats 1600000 in
theorem toAuction (d : Int) (A : Option Addr) (n c : Nat) (zs : List Int) (lo hi : Nat) (w : World) (h : Rd w lo hi A n zs) (hn : n ≤ 1048576) :
    Calls Tryd.prog 19 #[.agg #[.int .i64 d, .slice A n c]] w fun e w' => ∃ g, e = .returned (.agg #[.int .i64 d, .slice (some ⟨g, 0, none⟩) n n]) ∧ Own w' w.heap.size w'.heap.size (some ⟨g, 0, none⟩) n zs ∧ Chg w w' 0 0 := by
  have e1 : (w.alloc (.cells #[.int .i64 d, .slice A n c] 39)).heap.size = w.heap.size + 1 := by simp
  have e2 : ((w.alloc (.cells #[.int .i64 d, .slice A n c] 39)).alloc (.cells #[.int .i64 0, .slice none 0 0] 26)).heap.size = w.heap.size + 1 + 1 := by simp
  have c1 := Chg.of_alloc w (.cells #[.int .i64 d, .slice A n c] 39) 0 0
  have c2 := Chg.of_alloc (w.alloc (.cells #[.int .i64 d, .slice A n c] 39)) (.cells #[.int .i64 0, .slice none 0 0] 26) 0 0
  have c3 := Chg.of_alloc ((w.alloc (.cells #[.int .i64 d, .slice A n c] 39)).alloc (.cells #[.int .i64 0, .slice none 0 0] 26)) (.cells #[.int .i64 d, .slice none 0 0] 26) 0 0
  have z1 := (SBox.new (w.alloc (.cells #[.int .i64 d, .slice A n c] 39)) 26 #[.int .i64 0, .slice none 0 0]).still c3
  have z2 := SBox.new ((w.alloc (.cells #[.int .i64 d, .slice A n c] 39)).alloc (.cells #[.int .i64 0, .slice none 0 0] 26)) 26 #[.int .i64 d, .slice none 0 0]
  rw [e1] at z1
  rw [e2] at z2
  have C0 := Lib.hid ((c1.trans c2).trans c3)
  have Z1 := Lib.hid z1
  have Z2 := Lib.hid z2
  have H := Lib.hid (h.still C0.out)
  clear h e1 e2 c1 c2 c3 z1 z2
  go_enter Tryd.func19, Tryd.ntmps19
  go_wp2_with fail
  generalize ((w.alloc (.cells #[.int .i64 d, .slice A n c] 39)).alloc (.cells #[.int .i64 0, .slice none 0 0] 26)).alloc (.cells #[.int .i64 d, .slice none 0 0] 26) = W at C0 Z1 Z2 H ⊢
  refine (toInt64S A n c zs lo hi _ H.out hn).mono ?_
  rintro e w1 ⟨rfl, o1, c1⟩
  have z0 := C0.out.size
  obtain ⟨q, hq⟩ : ∃ q, q = W.heap.size := ⟨_, rfl⟩
  rw [← hq] at o1 ⊢
  have hqs : w.heap.size + 1 + 1 < q := by have := Z2.out.lt; omega
  have Z1 := Lib.hid (Z1.out.still c1)
  have Z2 := Lib.hid (Z2.out.still c1)
  have C1 := Lib.hid (C0.out.trans c1)
  have O1 := Lib.hid o1
  have q1 : w1.cell? ⟨w.heap.size + 1 + 1, 1, none⟩ = some (.slice none 0 0) := by rw [Z2.out.cell]; rfl
  have f1 : w1.frozen? ⟨w.heap.size + 1 + 1, 1, none⟩ = false := by have := Z2.out; unfold SBox at this; simp [World.frozen?, this]
  have Z3 := Lib.hid (show SBox (w1.setCell ⟨w.heap.size + 1 + 1, 1, none⟩ (.slice (some ⟨q, 0, none⟩) n n)) 26 (w.heap.size + 1 + 1) #[.int .i64 d, .slice (some ⟨q, 0, none⟩) n n] from set_heapS Z2.out 1 _)
  have Z4 := Lib.hid (show SBox (w1.setCell ⟨w.heap.size + 1 + 1, 1, none⟩ (.slice (some ⟨q, 0, none⟩) n n)) 26 (w.heap.size + 1) #[.int .i64 0, .slice none 0 0] from (set_otherS _ _ _ _ _ (by omega)).trans Z1.out)
  have K := Lib.hid ((C1.out.setS (i := 1) (v := .slice (some ⟨q, 0, none⟩) n n) (show w.heap.size ≤ w.heap.size + 1 + 1 by omega)).rowC (show w.heap.size ≤ w.heap.size + 1 by omega) #[.int .i64 d, .slice (some ⟨q, 0, none⟩) n n])
  have RS := Lib.hid (setRow_heap _ _ _ #[.int .i64 d, .slice (some ⟨q, 0, none⟩) n n] _ _ Z4.out)
  have O3 := Lib.hid (show Own ((w1.setCell ⟨w.heap.size + 1 + 1, 1, none⟩ (.slice (some ⟨q, 0, none⟩) n n)).setRow (w.heap.size + 1) #[.int .i64 d, .slice (some ⟨q, 0, none⟩) n n]) w.heap.size ((w1.setCell ⟨w.heap.size + 1 + 1, 1, none⟩ (.slice (some ⟨q, 0, none⟩) n n)).setRow (w.heap.size + 1) #[.int .i64 d, .slice (some ⟨q, 0, none⟩) n n]).heap.size (some ⟨q, 0, none⟩) n zs from by
    obtain ⟨ol, oc⟩ := O1.out
    refine ⟨ol, fun hn0 => ?_⟩
    obtain ⟨b, cs, e, h1, h2, h3, h4⟩ := oc hn0
    refine ⟨b, cs, e, by omega, ?_, ?_, h4⟩
    · rw [setRow_size]; simp [World.setCell]; exact h2
    · rw [setRow_other _ _ _ _ (by omega), set_otherS _ _ _ _ _ (by omega)]; exact h3)
  clear c1 o1 C0 H hq hqs z0 C1 O1 Z1 Z2
  go_wp2_with (first | (refine wpList_load_row rfl 26 _ rfl (w.heap.size + 1 + 1) rfl 26 #[.int .i64 d, .slice (some ⟨q, 0, none⟩) n n] (0, 0) _ Z3.out Tryd.underlying26 rfl (auc_info _ _ _ _) ?_) | (refine wpList_store_row rfl 26 _ _ rfl (w.heap.size + 1) #[.int .i64 d, .slice (some ⟨q, 0, none⟩) n n] rfl rfl 26 #[.int .i64 0, .slice none 0 0] Z4.out (auc_info _ _ _ _) rfl (auc_cells _ _ _ _) ?_))
  refine bodyPost_ret (v := .agg #[.int .i64 d, .slice (some ⟨q, 0, none⟩) n n]) (results_cell_row Tryd.results19 _ _ (w.heap.size + 1) 26 #[.int .i64 d, .slice (some ⟨q, 0, none⟩) n n] (0, 0) _ rfl RS.out Tryd.underlying26 rfl (auc_info _ _ _ _)) rfl ?_
  exact ⟨q, rfl, O3.out, K.out⟩
set_option maxHeartbeats 1600000 in
theorem toContract (l s x d : Int) (w : World) :
    Calls Tryd.prog 15 #[.agg #[.int .i64 l, .int .i64 s, .int .i64 x, .int .i64 d]] w fun e w' => e = .returned (.agg #[.int .i64 l, .int .i64 s, .int .i64 x, .int .i64 d]) ∧ Chg w w' 0 0 := by
  have e1 : (w.alloc (.cells #[.int .i64 l, .int .i64 s, .int .i64 x, .int .i64 d] 34)).heap.size = w.heap.size + 1 := by simp
  have c1 := Chg.of_alloc w (.cells #[.int .i64 l, .int .i64 s, .int .i64 x, .int .i64 d] 34) 0 0
  have c2 := Chg.of_alloc (w.alloc (.cells #[.int .i64 l, .int .i64 s, .int .i64 x, .int .i64 d] 34)) (.cells #[.int .i64 l, .int .i64 s, .int .i64 x, .int .i64 d] 36) 0 0
  have c3 := Chg.of_alloc ((w.alloc (.cells #[.int .i64 l, .int .i64 s, .int .i64 x, .int .i64 d] 34)).alloc (.cells #[.int .i64 l, .int .i64 s, .int .i64 x, .int .i64 d] 36)) (.cells #[.int .i64 l, .int .i64 s, .int .i64 x, .int .i64 d] 36) 0 0
  have z1 := (SBox.new (w.alloc (.cells #[.int .i64 l, .int .i64 s, .int .i64 x, .int .i64 d] 34)) 36 #[.int .i64 l, .int .i64 s, .int .i64 x, .int .i64 d]).still c3
  rw [e1] at z1
  have C0 := Lib.hid ((c1.trans c2).trans c3)
  have Z1 := Lib.hid z1
  clear e1 c1 c2 c3 z1
  go_enter Tryd.func15, Tryd.ntmps15
  go_wp2_with fail
  refine bodyPost_ret (v := .agg #[.int .i64 l, .int .i64 s, .int .i64 x, .int .i64 d]) (results_cell_row Tryd.results15 _ _ (w.heap.size + 1) 36 #[.int .i64 l, .int .i64 s, .int .i64 x, .int .i64 d] (0, 0) _ rfl Z1.out Tryd.underlying36 rfl (con_info l s x d)) rfl ?_
  exact ⟨rfl, C0.out⟩

/-- A law's argument that is an auction. -/
theorem open_auction {H : Type} {enc : TypeId × Value → H} {w : World} {held : Bool} {r : Reach} {b0 : Nat} {v : Value} {x : DataW H} {p : List MemPlace} (hv : Value.okWide Tryd.prog w r b0 39 v) (h : DataW.Trod enc Tryd.prog w 0 (fun _ => true) held 39 v x p) :
    ∃ d A n c zs, v = .agg #[.int .i64 d, .slice A n c] ∧ Rd w 0 w.heap.size A n zs ∧ n ≤ maxLen := by
  have hC : Tryd.prog.cellsOf 39 = 2 := by kernel_rfl
  obtain ⟨c0, c1, y0, y1, m, rfl, rfl, rfl, hy0, hy1⟩ := Go.Joins.open_agg2 Tryd.underlying39 (by kernel_rfl) hC hv h
  obtain ⟨a, e0, rfl, _⟩ := DataW.trod_int Tryd.underlying2 hy0
  obtain rfl : c0 = .int .i64 a := by simpa using e0
  rcases Go.ChangeShapes.open_ints Tryd.underlying24 Tryd.underlying2 (by kernel_rfl) hy1 with ⟨e, _⟩ | ⟨x, l, c, zs, e, _, hl, hm, hz, _, hcell, hwz⟩
  · obtain rfl : c1 = .slice none 0 0 := by simpa using e
    exact ⟨a, none, 0, 0, [], rfl, Rd.none_, by unfold maxLen; omega⟩
  · obtain rfl : c1 = .slice (some x) l c := by simpa using e
    exact ⟨a, some x, l, c, _, rfl, Rd.of_arg (.inr ⟨x, rfl, hl, hm, by simpa using hz, hcell, hwz⟩), by omega⟩
/-- A law's argument that is a contract. -/
theorem open_contract {H : Type} {enc : TypeId × Value → H} {w : World} {held : Bool} {r : Reach} {b0 : Nat} {v : Value} {x : DataW H} {p : List MemPlace} (hv : Value.okWide Tryd.prog w r b0 34 v) (h : DataW.Trod enc Tryd.prog w 0 (fun _ => true) held 34 v x p) :
    ∃ l s x d, v = .agg #[.int .i64 l, .int .i64 s, .int .i64 x, .int .i64 d] := by
  have hC : Tryd.prog.cellsOf 34 = 4 := by kernel_rfl
  obtain ⟨c0, c1, c2, c3, y0, y1, y2, y3, m, rfl, rfl, rfl, hy0, hy1, hy2, hy3⟩ := Go.Joins.open_agg4 Tryd.underlying34 (by kernel_rfl) hC hv h
  obtain ⟨a, e0, rfl, _⟩ := DataW.trod_int Tryd.underlying2 hy0
  obtain ⟨b, e1, rfl, _⟩ := DataW.trod_int Tryd.underlying2 hy1
  obtain ⟨c, e2, rfl, _⟩ := DataW.trod_int Tryd.underlying2 hy2
  obtain ⟨f, e3, rfl, _⟩ := DataW.trod_int Tryd.underlying2 hy3
  obtain rfl : c0 = .int .i64 a := by simpa using e0
  obtain rfl : c1 = .int .i64 b := by simpa using e1
  obtain rfl : c2 = .int .i64 c := by simpa using e2
  obtain rfl : c3 = .int .i64 f := by simpa using e3
  exact ⟨_, _, _, _, rfl⟩
end Go.Proofs.YtnkbcmkngghnoaaDoor.Lib1
