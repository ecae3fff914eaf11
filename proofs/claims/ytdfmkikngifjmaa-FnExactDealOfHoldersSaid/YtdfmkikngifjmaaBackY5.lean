/- The library's slices.Backward at []int64, for slices that may be nil: a round is told the index alone. -/
import Derived.Test.YtdfmkikngifjmaaRange5
namespace Go.Proofs.Ytdfmkikngifjmaa.Lib1
open Go.RowKit Go.Shelf
set_option maxRecDepth 100000
attribute [local go_sem] Oper.semAt_some

set_option maxHeartbeats 2000000 in
theorem backwardY (n : Nat) (l Bs b off cap : Nat) (a : Option Addr) (zs : List Int) (ha : 0 < zs.length → a = some ⟨b, off, none⟩) (hreach : zs.length ≤ 1048576) (J Jx : List (Fin zs.length) → World → Prop)
    (hY : ∀ pre x W, J pre W → pre.length < zs.length → YieldAt Fence.wide (n - 1) Try.prog l (bxE zs x) W fun e W' =>
      (e = .returned (.bool true) ∧ J (pre ++ [x]) W' ∧ KpB b Bs W W') ∨ (e = .returned (.bool false) ∧ Jx (pre ++ [x]) W'))
    (W : World) (hBs : W.cell? ⟨Bs, 0, none⟩ = some (.slice a zs.length cap)) (hc : ∀ j, j < zs.length → W.cell? ⟨b, off + j, none⟩ = some (.int .i64 (zs.getD j 0))) (h0 : J [] W) :
    CallsIn Fence.wide n Try.prog 111 #[.func (.yield l) #[] #[], .pointer (some ⟨Bs, 0, none⟩)] W (SeqEnd (fun ys => ys = bxTo zs zs.length (Nat.le_refl _)) (fun _ => True) J Jx) := by
  have HC := Lib.hid hc
  have HA := Lib.hid ha
  have HY := Lib.hid hY
  clear hc hY ha
  refine callsIn_of_wp Try.func111 rfl trivial ?_ rfl
  simp only [Try.ntmps111, List.size_toArray, List.length_cons, List.length_nil, Nat.reduceAdd, Nat.reduceSub, Array.replicate_succ, Array.replicate_zero, List.push_toArray, List.append_toArray, List.nil_append, List.cons_append]
  gi_wp2
  gi_loopw [3] (fun i wr => ∃ (k : Nat) (h : k ≤ zs.length) (y : Int), i = .int .i64 y ∧ Hid (y = (zs.length : Int) - 1 - (k : Int)) ∧ J (bxTo zs k h) wr ∧ KpB b Bs W wr)
    (fun i _ => (intOf i + 1).toNat)
  case atStart => exact ⟨0, Nat.zero_le _, _, rfl, by show _ = _; omega, h0, KpB.refl _ _ _⟩
  case round =>
    obtain ⟨k, hk, y, rfl, hy, hJs, hnx⟩ := hrel
    have hBx := (World.cell?_of_block (a := ⟨Bs, 0, none⟩) hnx.2).trans hBs
    by_cases hlt : k < zs.length
    · have hal := HA.out (by omega)
      subst hal
      obtain ⟨m, hm⟩ : ∃ m : Nat, y = (m : Int) := ⟨y.toNat, by have := hy.out; omega⟩
      subst hm
      have hml : m < zs.length := by have := hy.out; omega
      have hmi : (m : Int) < (zs.length : Int) := by omega
      have hm0 : (0 : Int) ≤ (m : Int) := by omega
      have hst := Lib.hid (bxTo_step zs (k := k) (m := m) (by omega) (by have := hy.out; omega) hml)
      have hcell := (World.cell?_of_block (a := ⟨b, off + m, none⟩) hnx.1).trans (HC.out m hml)
      have hyl := Lib.hid (HY.out _ ⟨m, hml⟩ wr hJs (by rw [bxTo_length]; exact hlt))
      have HM : Hid ((m : Int) - 1 = (zs.length : Int) - 1 - ((k + 1 : Nat) : Int)) := by have := hy.out; show _ = _; omega
      obtain ⟨fn, tmps, assign, body, hy', hR⟩ := hyl.out
      dsimp only [bxE] at hy'
      generalize zs.getD m 0 = z at hcell hy'
      clear hyl hy hJs
      gi_wp2
      refine ⟨(fun q => by cases q), hR.mono ?_⟩
      rintro e W3 (⟨rfl, hJ3, hk3⟩ | ⟨rfl, hJx3⟩)
      · rw [← hst.out] at hJ3
        gi_wp2
        go_roundw
        case rel => exact ⟨k + 1, by omega, (m : Int) - 1, rfl, HM, hJ3, hnx.trans hk3⟩
        case measure => simp [intOf]
      · gi_wp2
        refine bodyPost_ret (results_none rfl _ _ _) rfl ?_
        exact ⟨⟨_, rfl⟩, .inr ⟨_, trivial, hJx3⟩⟩
    · have y0 : ¬ 0 ≤ y := by have := hy.out; omega
      obtain rfl : k = zs.length := by omega
      gi_wp2
      go_end0
      exact ⟨⟨_, rfl⟩, .inl ⟨_, rfl, hJs⟩⟩

/-- .. and it goes through the slice from its end, for every body that keeps what lay below n₀. -/
theorem backward_stopsY (n : Nat) (Bs b off cap : Nat) (a : Option Addr) (zs : List Int) (ha : 0 < zs.length → a = some ⟨b, off, none⟩) (hreach : zs.length ≤ 1048576) (w : World) (hBs : Bs < w.heap.size) (hb : b < w.heap.size)
    (hc : w.cell? ⟨Bs, 0, none⟩ = some (.slice a zs.length cap)) (hI : ∀ j, j < zs.length → w.cell? ⟨b, off + j, none⟩ = some (.int .i64 (zs.getD j 0))) :
    SeqStopsK Fence.wide n Try.prog 111 #[.pointer (some ⟨Bs, 0, none⟩)] (bxE zs) (KpB b Bs) (fun ys => ys = bxTo zs zs.length (Nat.le_refl _)) (fun _ => True) zs.length w := fun l J Jx W hW _ _ hY h0 => by
  have hc' := (hW.cell (p := ⟨Bs, 0, none⟩) hBs).trans hc
  exact backwardY n l Bs b off cap a zs ha hreach J Jx hY W hc' (fun j hj => (hW.cell (p := ⟨b, off + j, none⟩) hb).trans (hI j hj)) h0

end Go.Proofs.Ytdfmkikngifjmaa.Lib1
