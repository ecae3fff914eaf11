/- Chapter 2: the program's losersIn, suitsOf, suitCounts, sumOverSuits. -/
import Derived.Test.YtgoaikamolcffaaDoorBits
import Derived.Laws.Tables
import Derived.Laws.Rows
namespace Go.Proofs.YtgoaikamolcffaaDoor.Lib1
open Go.RowKit

theorem loseN_range (m : Nat) : ∀ k, 0 ≤ loseN m k ∧ loseN m k ≤ k
  | 0 => by simp [loseN]
  | k + 1 => by have := loseN_range m k; have := bt_le m (12 - k); simp only [loseN]; omega
def losersN (m : Nat) : Int := loseN m (min (ones m) 3)

theorem Chg.row {w w1 : World} (h : Chg w w1 0 0) {g : Nat} (hg : w.heap.size ≤ g) (cs : Array Value) : Chg w (w1.setRow g cs) 0 0 :=
  ⟨h.os, h.tape, h.output, by rw [setRow_size]; exact h.size, fun k hk hq => (setRow_other w1 g k cs (by omega)).trans (h.block k hk hq)⟩
/-- The numbers of the four suits, as the program's array holds them. -/
def rowOf (l : List Int) : Array Value := #[.int .u16 (maskN l 0), .int .u16 (maskN l 1), .int .u16 (maskN l 2), .int .u16 (maskN l 3)]
theorem row_at (l : List Int) (s : Int) (h0 : 0 ≤ s) (h1 : s < 4) : (rowOf l)[s.toNat]? = some (.int .u16 (maskN l s)) := by
  have hq : s = 0 ∨ s = 1 ∨ s = 2 ∨ s = 3 := by omega
  rcases hq with rfl | rfl | rfl | rfl <;> rfl
theorem row_set (l : List Int) (z : Int) (h0 : 0 ≤ z / 13) (h1 : z / 13 < 4) : (rowOf l).setIfInBounds (z / 13).toNat (.int .u16 ((maskN l (z / 13) ||| 2 ^ (z % 13).toNat : Nat) : Int)) = rowOf (l ++ [z]) := by
  have e : maskN (l ++ [z]) (z / 13) = maskN l (z / 13) ||| 2 ^ (z % 13).toNat := by rw [maskN_snoc, if_pos rfl]
  rw [← e]
  have hq : z / 13 = 0 ∨ z / 13 = 1 ∨ z / 13 = 2 ∨ z / 13 = 3 := by omega
  unfold rowOf
  rcases hq with h | h | h | h
  · rw [h, maskN_same (s := 1) (by omega), maskN_same (s := 2) (by omega), maskN_same (s := 3) (by omega)]; rfl
  · rw [h, maskN_same (s := 0) (by omega), maskN_same (s := 2) (by omega), maskN_same (s := 3) (by omega)]; rfl
  · rw [h, maskN_same (s := 0) (by omega), maskN_same (s := 1) (by omega), maskN_same (s := 3) (by omega)]; rfl
  · rw [h, maskN_same (s := 0) (by omega), maskN_same (s := 1) (by omega), maskN_same (s := 2) (by omega)]; rfl
theorem row_info (l : List Int) : (Tryd.prog.info? 41).map (·.size) = some (rowOf l).size := by kernel_rfl
theorem row_cells (l : List Int) : (rowOf l).all (·.oneCell') = true := by kernel_rfl
theorem or_bit (m r : Nat) (hm : m < 8192) (hr : r < 13) : bits .or .u16 (m : Int) (IntKind.u16.wrap (2 ^ r)) = ((m ||| 2 ^ r : Nat) : Int) := by
  have l : 2 ^ r < 65536 := Nat.lt_of_lt_of_le (Nat.pow_lt_pow_right (by omega) (show r < 16 by omega)) (by decide)
  have h := u16_or_nat m (2 ^ r) (by omega) l
  have e : IntKind.u16.wrap (2 ^ r) = ((2 ^ r : Nat) : Int) := by
    rw [IntKind.wrap_u16, show ((2 : Int) ^ r) = ((2 ^ r : Nat) : Int) by simp]
    exact Int.emod_eq_of_lt (Int.natCast_nonneg _) (by have := Int.ofNat_lt.2 l; exact this)
  rw [← h, e]
theorem put_row {wr : World} {g i : Nat} {cur cs : Array Value} {t : TypeId} {v : Value} (hg : wr.heap[g]? = some (.cells cur t (0, 0))) (hs : cur.setIfInBounds i v = cs) : ((wr.setCell ⟨g, i, none⟩ v).drew).heap[g]? = some (.cells cs t (0, 0)) := by
  show (wr.setCell ⟨g, i, none⟩ v).heap[g]? = _
  rw [setCell_eq_setRow wr g i cur t (0, 0) v hg, setRow_heap _ _ _ _ _ _ hg, hs]
theorem put_else {wr : World} {g i k : Nat} {v : Value} {o : Option Obj} (hk : k ≠ g) (h : wr.heap[k]? = o) : ((wr.setCell ⟨g, i, none⟩ v).drew).heap[k]? = o :=
  (Below.heap_setCell _ _ _ _ hk).trans h
theorem Chg.put {w wr : World} {g i : Nat} {v : Value} (h : Chg w wr 0 0) (hg : w.heap.size ≤ g) : Chg w (wr.setCell ⟨g, i, none⟩ v).drew 0 0 :=
  ⟨h.os, h.tape, h.output, by have := h.size; simpa [World.setCell, World.drew] using this, fun _ hk hq => put_else (by omega) (h.block _ hk hq)⟩
set_option maxHeartbeats 1000000 in
theorem suitsOf (A : Option Addr) (n c : Nat) (zs : List Int) (lo hi : Nat) (w : World) (h : Rd w lo hi A n zs) (hz : handB zs = true) :
    Calls Tryd.prog 20 #[.slice A n c] w fun e w' => e = .returned (.agg (rowOf zs)) ∧ Chg w w' 0 0 := by
  have hl := h.1
  have h51 := ((hand_iff zs).1 hz).2.2
  have hlen := hand_len hz
  have g1 := heap_alloc_new (w.alloc (.cells #[.int .u16 0, .int .u16 0, .int .u16 0, .int .u16 0] 41)) (.cells #[.int .u16 0, .int .u16 0, .int .u16 0, .int .u16 0] 41)
  have g0 : ((w.alloc (.cells #[.int .u16 0, .int .u16 0, .int .u16 0, .int .u16 0] 41)).alloc (.cells #[.int .u16 0, .int .u16 0, .int .u16 0, .int .u16 0] 41)).heap[w.heap.size]? = some (.cells #[.int .u16 0, .int .u16 0, .int .u16 0, .int .u16 0] 41 (0, 0)) :=
    (Below.heap_alloc _ _ _ (by simp)).trans (heap_alloc_new w _)
  have c0 : Chg w ((w.alloc (.cells #[.int .u16 0, .int .u16 0, .int .u16 0, .int .u16 0] 41)).alloc (.cells #[.int .u16 0, .int .u16 0, .int .u16 0, .int .u16 0] 41)) 0 0 := (Chg.of_alloc _ _ _ _).trans (Chg.of_alloc _ _ _ _)
  have G0 := Lib.hid g0
  have G1 := Lib.hid g1
  have C0 := Lib.hid c0
  clear g0 g1 c0
  go_enter Tryd.func20, Tryd.ntmps20
  go_wp2
  go_loopw [9] (fun i wr => ∃ k : Nat, k ≤ n ∧ i = .int .i64 k ∧ Hid (wr.heap[w.heap.size + 1]? = some (.cells (rowOf (zs.take k)) 41 (0, 0))) ∧ Hid (wr.heap[w.heap.size]? = some (.cells #[.int .u16 0, .int .u16 0, .int .u16 0, .int .u16 0] 41 (0, 0))) ∧ Hid (Chg w wr 0 0)) (fun i _ => n - (intOf i).toNat)
  case atStart =>
    refine ⟨0, Nat.zero_le _, rfl, ?_, G0.out, C0.out⟩
    have := G1.out
    simp only [World.size_alloc] at this
    simpa [Hid, rowOf, maskN_nil] using this
  case round =>
    obtain ⟨k, hk, rfl, k1, k0, hc⟩ := hrel
    by_cases hlt : k < n
    · obtain ⟨b, off, rfl, _, _, hcs⟩ := h.2 (by omega)
      have hck : wr.cell? ⟨b, off + k, none⟩ = some (.int .i64 (zs.getD k 0)) := by
        have r := (h.still hc.out).2 (by omega)
        obtain ⟨b', off', e', _, _, hcs'⟩ := r
        injection e' with e'
        injection e' with e1 e2 _
        subst e1; subst e2
        exact hcs' k hlt
      have hkl : (k : Int) < (n : Int) := by omega
      have hgd : zs.getD k 0 = zs[k]'(by omega) := by simp [List.getD, List.getElem?_eq_getElem (show k < zs.length by omega)]
      have hmem : zs.getD k 0 ∈ zs := by rw [hgd]; exact List.getElem_mem _
      have hb51 := h51 _ hmem
      have htk : Hid (zs.take (k + 1) = zs.take k ++ [zs.getD k 0]) := by show _ = _; rw [List.take_succ_eq_append_getElem (by omega), hgd]
      clear hgd hcs
      generalize zs.getD k 0 = z at hck hmem hb51 htk
      have q0 : 0 ≤ z / 13 := by omega
      have q1 : z / 13 < 4 := by omega
      have r0 : 0 ≤ z % 13 := by omega
      have r1 : z % 13 < 13 := by omega
      have hcell : wr.cell? ⟨w.heap.size + 1, (z / 13).toNat, none⟩ = some (.int .u16 (maskN (zs.take k) (z / 13))) := by rw [cell_of_row wr _ _ _ _ _ k1.out]; exact row_at _ _ q0 q1
      have hfr : wr.frozen? ⟨w.heap.size + 1, (z / 13).toNat, none⟩ = false := by simp [World.frozen?, k1.out]
      have hor := or_bit (maskN (zs.take k) (z / 13)) (z % 13).toNat (maskN_lt _ _) (by omega)
      have hset := Lib.hid (row_set (zs.take k) z q0 q1)
      generalize hm : maskN (zs.take k) (z / 13) = m at hcell hor hset
      go_wp2
      go_region_with (first | (go_at_call 39; refine (suit _ _ (by omega) (by omega)).mono ?_; rintro e w' ⟨rfl, rfl⟩) | (go_at_call 40; refine (rank _ _ (by omega) (by omega)).mono ?_; rintro e w' ⟨rfl, rfl⟩))
      all_goals go_wp2
      all_goals go_roundw
      all_goals first
        | (refine ⟨k + 1, by omega, by go_num, put_row k1.out (by first | (rw [htk.out, hor]; exact hset.out) | (rw [htk.out]; exact hset.out)), put_else (by omega) k0.out, hc.out.put (by omega)⟩)
        | (simp [intOf]; omega)
    · obtain rfl : k = n := by omega
      have ht : zs.take k = zs := List.take_of_length_le (by omega)
      rw [ht] at k1
      have hg2 := Lib.hid (setRow_heap _ _ _ (rowOf zs) _ _ k0.out)
      have hcf := Lib.hid (hc.out.row (Nat.le_refl _) (rowOf zs))
      go_wp2_with (first | (refine wpList_load_row rfl 41 _ rfl (w.heap.size + 1) rfl 41 (rowOf zs) (0, 0) _ k1.out Tryd.underlying41 rfl (row_info zs) ?_) | (refine wpList_store_row rfl 41 _ _ rfl w.heap.size (rowOf zs) rfl rfl 41 _ k0.out (row_info zs) rfl (row_cells zs) ?_))
      refine bodyPost_ret (v := .agg (rowOf zs)) (results_cell_row Tryd.results20 _ _ w.heap.size 41 (rowOf zs) (0, 0) _ rfl hg2.out Tryd.underlying41 rfl (row_info zs)) rfl ?_
      exact ⟨rfl, hcf.out⟩
theorem row_index (l : List Int) (k : Nat) (hk : k < 4) (w : World) : (Instr.index 41 (.agg (rowOf l)) (.int .i64 (k : Int))).run Tryd.prog w = .ok (.int .u16 (maskN l (k : Int))) w := by
  have hq : k = 0 ∨ k = 1 ∨ k = 2 ∨ k = 3 := by omega
  rcases hq with rfl | rfl | rfl | rfl
  · show _ = _; kernel_rfl
  · show _ = _; kernel_rfl
  · show _ = _; kernel_rfl
  · show _ = _; kernel_rfl
end Go.Proofs.YtgoaikamolcffaaDoor.Lib1
