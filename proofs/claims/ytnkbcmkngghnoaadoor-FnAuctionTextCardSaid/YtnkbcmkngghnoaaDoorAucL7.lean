/- Chapter 7: the draws of the laws. -/
import Derived.Test.YtnkbcmkngghnoaaDoorAucK7
namespace Go.Proofs.YtnkbcmkngghnoaaDoor.Lib1
open Go.RowKit
set_option maxRecDepth 100000

/-- An auction is drawn out of a code. -/
def DrewC (w : World) (e : Ending) (w' : World) : Prop :=
  ∃ (d : Int) (A : Option Addr) (m c : Nat) (cs : List Int), e = .returned (.agg #[.int .i64 d, .slice A m c]) ∧ m ≤ 30 ∧ m ≤ c ∧ (A = none → c = 0) ∧ Rd w' w.heap.size w'.heap.size A m cs ∧ Below w.heap.size w w'
/-- .. and a number. -/
def DrewCI (w : World) (e : Ending) (w' : World) : Prop :=
  ∃ (d : Int) (A : Option Addr) (m c : Nat) (cs : List Int) (x : Int), e = .returned (.tuple #[.agg #[.int .i64 d, .slice A m c], .int .i64 x]) ∧ m ≤ 30 ∧ m ≤ c ∧ (A = none → c = 0) ∧ Rd w' w.heap.size w'.heap.size A m cs ∧ Below w.heap.size w w'


set_option maxHeartbeats 1600000 in
theorem DrawAuctionText (A : Option Addr) (n c : Nat) (w : World) (h : Bytes w A n) (hn : n ≤ 1048576) :
    Calls Tryd.prog 8 #[.slice A n c] w (DrewC w) := by
  have hB := Lib.hid (h.chg (Chg.of_alloc w (.cells #[.int .i64 0, .slice none 0 0] 26) w.heap.size 0))
  have K0 : Hid (Below w.heap.size w (w.alloc (.cells #[.int .i64 0, .slice none 0 0] 26))) := (Below.refl w.heap.size w).alloc (Nat.le_refl _) _
  have Z0 : Hid ((w.alloc (.cells #[.int .i64 0, .slice none 0 0] 26)).heap[w.heap.size]? = some (.cells aucZero 26 (0, 0))) := heap_alloc_new w _
  have z0 : Hid ((w.alloc (.cells #[.int .i64 0, .slice none 0 0] 26)).heap.size = w.heap.size + 1) := by show _ = _; simp
  clear h
  go_enter Tryd.func8, Tryd.ntmps8
  go_wp2_with fail
  generalize w.alloc (.cells #[.int .i64 0, .slice none 0 0] 26) = W0 at hB K0 Z0 z0 ⊢
  refine (l01From A n c _ hB.out hn).mono ?_
  rintro e w1 ⟨rfl, s1, b1⟩
  have S1 := Lib.hid s1
  have K1 := Lib.hid (K0.out.trans (b1.mono (by have := z0.out; omega)))
  have Z1 := Lib.hid ((b1.block w.heap.size (by have := z0.out; omega)).trans Z0.out)
  have z1 := Lib.hid (show w.heap.size + 1 ≤ w1.heap.size by have := b1.size; have := z0.out; omega)
  clear s1 b1 hB K0 Z0
  go_wp2_with fail
  refine (l07DrawAny _ _ S1.out).mono ?_
  rintro e w2 ⟨d, D, m, k, cs, rfl, hm, hcap, hnil, hrd, _, c2⟩
  have K2 := Lib.hid (below_draw K1.out c2 (by have := z0.out; omega) S1.out.lt)
  have Z2 := Lib.hid ((c2.block w.heap.size (by have := z1.out; omega) (.inl (by have := z0.out; omega))).trans Z1.out)
  have z2 := Lib.hid c2.size
  have HSE := Lib.hid (setRow_heap w2 w.heap.size _ #[.int .i64 d, .slice D m k] _ _ Z2.out)
  have KE := Lib.hid (K2.out.trans (rowB w2 (Nat.le_refl w.heap.size) #[.int .i64 d, .slice D m k]))
  have RE := Lib.hid (show Rd (w2.setRow w.heap.size #[.int .i64 d, .slice D m k]) w.heap.size (w2.setRow w.heap.size #[.int .i64 d, .slice D m k]).heap.size D m cs from (hrd.chg (chg_row w2 w.heap.size #[.int .i64 d, .slice D m k]) (.inr (by have := z1.out; omega))).more (by have := z1.out; omega) (by rw [setRow_size]; exact Nat.le_refl _))
  clear hrd c2
  go_wp2_with (refine wpList_store_row rfl 26 _ _ rfl w.heap.size #[.int .i64 d, .slice D m k] rfl rfl 26 aucZero Z2.out (auc_info d D m k) rfl (auc_cells d D m k) ?_)
  refine bodyPost_ret (v := .agg #[.int .i64 d, .slice D m k]) (results_cell_row Tryd.results8 _ _ w.heap.size 26 #[.int .i64 d, .slice D m k] (0, 0) _ rfl HSE.out Tryd.underlying26 rfl (auc_info d D m k)) rfl ?_
  exact ⟨d, D, m, k, cs, rfl, hm, hcap, hnil, RE.out, KE.out⟩

end Go.Proofs.YtnkbcmkngghnoaaDoor.Lib1
