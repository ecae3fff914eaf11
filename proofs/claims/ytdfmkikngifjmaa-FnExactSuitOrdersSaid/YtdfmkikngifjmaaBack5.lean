/- The library's slices.Backward at []int64: what a range over it sees. -/
import Derived.Test.YtdfmkikngifjmaaRound
import Derived.Lib.Hide
namespace Go.Proofs.Ytdfmkikngifjmaa.Lib1
open Go.RowKit Go.Shelf
set_option maxRecDepth 100000
attribute [local go_sem] Oper.semAt_some

/-- What has come when k rounds are over: the last k elements with their indices, from the end. -/
def bwTo (zs : List Int) : (k : Nat) → k ≤ zs.length → List (Fin zs.length × Int)
  | 0, _ => []
  | k + 1, h => bwTo zs k (by omega) ++ [(⟨zs.length - 1 - k, by omega⟩, zs.getD (zs.length - 1 - k) 0)]
theorem bwTo_length (zs : List Int) : ∀ k h, (bwTo zs k h).length = k
  | 0, _ => rfl
  | k + 1, h => by rw [bwTo, List.length_append, bwTo_length zs k]; rfl
def bwE (zs : List Int) (x : Fin zs.length × Int) : Array Value := #[.int .i64 (x.1.val : Int), .int .i64 x.2]

theorem bwTo_step (zs : List Int) {k m : Nat} (h : k + 1 ≤ zs.length) (hm : zs.length - 1 - k = m) (hml : m < zs.length) : bwTo zs (k + 1) h = bwTo zs k (by omega) ++ [(⟨m, hml⟩, zs.getD m 0)] := by subst hm; rfl
/-- What a round must keep: the two blocks that the iterator reads. -/
def KpB (g b : Nat) (A B : World) : Prop := B.heap[g]? = A.heap[g]? ∧ B.heap[b]? = A.heap[b]?
theorem KpB.trans {g b : Nat} {A B C : World} (h : KpB g b A B) (k : KpB g b B C) : KpB g b A C := ⟨k.1.trans h.1, k.2.trans h.2⟩
theorem KpB.refl (g b : Nat) (A : World) : KpB g b A A := ⟨rfl, rfl⟩
theorem KpB.put {g b : Nat} {w : World} (hg : g < w.heap.size) (hb : b < w.heap.size) (W : World) (l : Nat) (o o' : Obj) (hl : w.heap.size ≤ l) (_ : W.heap[l]? = some o) (_ : o.isCells = false) (_ : o.isWalk = false) : KpB g b W (W.putObj l o') :=
  ⟨World.putObj_heap_other (by omega), World.putObj_heap_other (by omega)⟩
/-- How the iterator ends: all have come; or a part, a round having said no more. -/
def SeqEnd {α : Type} (S Sp : List α → Prop) (J Jx : List α → World → Prop) (e : Ending) (W' : World) : Prop := (∃ v, e = .returned v) ∧ ((∃ ys, S ys ∧ J ys W') ∨ (∃ pre, Sp pre ∧ Jx pre W'))

set_option maxHeartbeats 2000000 in
theorem backward1 (n : Nat) (l Bs b off cap : Nat) (zs : List Int) (hreach : zs.length ≤ 1048576) (J Jx : List (Fin zs.length × Int) → World → Prop)
    (hY : ∀ pre x W, J pre W → pre.length < zs.length → YieldAt Fence.wide (n - 1) Try.prog l (bwE zs x) W fun e W' =>
      (e = .returned (.bool true) ∧ J (pre ++ [x]) W' ∧ KpB b Bs W W') ∨ (e = .returned (.bool false) ∧ Jx (pre ++ [x]) W'))
    (W : World) (hBs : W.cell? ⟨Bs, 0, none⟩ = some (.slice (some ⟨b, off, none⟩) zs.length cap)) (hc : ∀ j, j < zs.length → W.cell? ⟨b, off + j, none⟩ = some (.int .i64 (zs.getD j 0))) (h0 : J [] W) :
    CallsIn Fence.wide n Try.prog 111 #[.func (.yield l) #[] #[], .pointer (some ⟨Bs, 0, none⟩)] W (SeqEnd (fun ys => ys = bwTo zs zs.length (Nat.le_refl _)) (fun _ => True) J Jx) := by
  have HC := Lib.hid hc
  have HY := Lib.hid hY
  clear hc hY
  refine callsIn_of_wp Try.func111 rfl trivial ?_ rfl
  simp only [Try.ntmps111, List.size_toArray, List.length_cons, List.length_nil, Nat.reduceAdd, Nat.reduceSub, Array.replicate_succ, Array.replicate_zero, List.push_toArray, List.append_toArray, List.nil_append, List.cons_append]
  gi_wp2
  gi_loopw [3] (fun i wr => ∃ (k : Nat) (h : k ≤ zs.length) (y : Int), i = .int .i64 y ∧ Hid (y = (zs.length : Int) - 1 - (k : Int)) ∧ J (bwTo zs k h) wr ∧ KpB b Bs W wr)
    (fun i _ => (intOf i + 1).toNat)
  case atStart => exact ⟨0, Nat.zero_le _, _, rfl, by show _ = _; omega, h0, KpB.refl _ _ _⟩
  case round =>
    obtain ⟨k, hk, y, rfl, hy, hJs, hnx⟩ := hrel
    have hBx := (World.cell?_of_block (a := ⟨Bs, 0, none⟩) hnx.2).trans hBs
    by_cases hlt : k < zs.length
    · obtain ⟨m, hm⟩ : ∃ m : Nat, y = (m : Int) := ⟨y.toNat, by have := hy.out; omega⟩
      subst hm
      have hml : m < zs.length := by have := hy.out; omega
      have hmi : (m : Int) < (zs.length : Int) := by omega
      have hm0 : (0 : Int) ≤ (m : Int) := by omega
      have hst := Lib.hid (bwTo_step zs (k := k) (m := m) (by omega) (by have := hy.out; omega) hml)
      have hcell := (World.cell?_of_block (a := ⟨b, off + m, none⟩) hnx.1).trans (HC.out m hml)
      have hyl := Lib.hid (HY.out _ (⟨m, hml⟩, zs.getD m 0) wr hJs (by rw [bwTo_length]; exact hlt))
      have HM : Hid ((m : Int) - 1 = (zs.length : Int) - 1 - ((k + 1 : Nat) : Int)) := by have := hy.out; show _ = _; omega
      generalize zs.getD m 0 = z at hst hcell hyl
      obtain ⟨fn, tmps, assign, body, hy', hR⟩ := hyl.out
      dsimp only [bwE] at hy'
      clear hyl hy hJs
      gi_wp2
      refine ⟨(fun q => by cases q), hR.mono ?_⟩
      rintro e W3 (⟨rfl, hJ3, hk3⟩ | ⟨rfl, hJx3⟩)
      · rw [← hst.out] at hJ3
        gi_wp2
        go_roundw
        case rel => exact ⟨k + 1, by omega, (m : Int) - 1, rfl, HM, hJ3, hnx.trans hk3⟩
        case measure => simp [intOf]
      · gi_wp2
        refine bodyPost_ret (results_none rfl _ _ _) rfl ?_
        exact ⟨⟨_, rfl⟩, .inr ⟨_, trivial, hJx3⟩⟩
    · have y0 : ¬ 0 ≤ y := by have := hy.out; omega
      obtain rfl : k = zs.length := by omega
      gi_wp2
      go_end0
      exact ⟨⟨_, rfl⟩, .inl ⟨_, rfl, hJs⟩⟩

/-- slices.Backward: the slice is boxed, the function value captures the box. -/
theorem Backward64 (n : Nat) (a : Option Addr) (len cap : Nat) (w : World) :
    CallsIn Fence.wide n Try.prog 66 #[.slice a len cap] w fun e w' => e = .returned (.func (.func 111) #[] #[.pointer (some ⟨w.heap.size, 0, none⟩)]) ∧ w' = w.alloc (.cells #[.slice a len cap] 40) := by
  refine callsIn_of_wp Try.func66 rfl trivial ?_ rfl
  simp only [Try.ntmps66, List.size_toArray, List.length_cons, List.length_nil, Nat.reduceAdd, Nat.reduceSub, Array.replicate_succ, Array.replicate_zero, List.push_toArray, List.append_toArray, List.nil_append, List.cons_append]
  gi_wp2
  go_ret
  exact ⟨rfl, rfl⟩
/-- .. and it goes through the slice from its end, for every body that keeps what lay below n₀. -/
theorem backward_stops (n : Nat) (Bs b off cap : Nat) (zs : List Int) (hreach : zs.length ≤ 1048576) (w : World) (hBs : Bs < w.heap.size) (hb : b < w.heap.size)
    (hc : w.cell? ⟨Bs, 0, none⟩ = some (.slice (some ⟨b, off, none⟩) zs.length cap)) (hI : ∀ j, j < zs.length → w.cell? ⟨b, off + j, none⟩ = some (.int .i64 (zs.getD j 0))) :
    SeqStopsK Fence.wide n Try.prog 111 #[.pointer (some ⟨Bs, 0, none⟩)] (bwE zs) (KpB b Bs) (fun ys => ys = bwTo zs zs.length (Nat.le_refl _)) (fun _ => True) zs.length w := fun l J Jx W hW _ _ hY h0 => by
  have hc' := (hW.cell (p := ⟨Bs, 0, none⟩) hBs).trans hc
  exact backward1 n l Bs b off cap zs hreach J Jx hY W hc' (fun j hj => (hW.cell (p := ⟨b, off + j, none⟩) hb).trans (hI j hj)) h0

end Go.Proofs.Ytdfmkikngifjmaa.Lib1
