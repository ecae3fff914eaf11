/- Contracts of the laws' own helpers over slices of int64: a copy, a comparison, marks that are written and read again. -/
import Derived.Test.YtgoaikamolcffaaDoorMem
import Derived.LoopTactic
import Derived.Deep.OwnRows
import Derived.Deep.QuietTactic
import Derived.BigQuiet
import Derived.RegionTactic
import Derived.Outline
namespace Go.Proofs.YtgoaikamolcffaaDoor.Lib1
open Go.RowKit

theorem Own.of_alloc (w : World) (C : Array Value) (n : Nat) (zs : List Int) (hz : zs.length = n) (hC : ∀ j, j < n → C[j]? = some (.int .i64 (zs.getD j 0))) :
    Own (w.alloc (.cells C 2)) w.heap.size (w.alloc (.cells C 2)).heap.size (some ⟨w.heap.size, 0, none⟩) n zs :=
  ⟨hz, fun _ => ⟨w.heap.size, C, rfl, Nat.le_refl _, by simp, heap_alloc_new w _, hC⟩⟩
theorem Chg.of_alloc (w : World) (o : Obj) (lo hi : Nat) : Chg w (w.alloc o) lo hi := Chg.of_below ((Below.refl _ _).alloc (Nat.le_refl _) o) _ _

theorem set_prefix {C : Array Value} {n k : Nat} {f : Nat → Int} (h : ∀ j, j < k → C[j]? = some (.int .i64 (f j))) (hC : C.size = n) (hk : k < n) :
    ∀ j, j < k + 1 → (C.setIfInBounds k (.int .i64 (f k)))[j]? = some (.int .i64 (f j)) := by
  intro j hj
  rw [Array.getElem?_setIfInBounds]
  by_cases e : k = j
  · subst e; simp [hC, hk]
  · rw [if_neg e]; exact h j (by omega)


set_option maxHeartbeats 400000 in
/-- laws.eqInt64S of two slices that read alike -/
theorem eqInt64S (A B : Option Addr) (n m c d : Nat) (zs : List Int) (lo hi lo' hi' : Nat) (w : World) (h : Rd w lo hi A n zs) (h' : Rd w lo' hi' B m zs) (hn : n ≤ 1048576) :
    Calls Tryd.prog 14 #[.slice A n c, .slice B m d] w fun e w' => e = .returned (.bool true) ∧ Chg w w' 0 0 := by
  obtain rfl : m = n := by rw [← h.1, ← h'.1]
  go_enter Tryd.func14, Tryd.ntmps14
  go_wp2
  go_loopw [5] (fun i wr => ∃ k q : Nat, k ≤ m ∧ i = .int .i64 k ∧ wr = w.drewN q) (fun i _ => m - (intOf i).toNat)
  case atStart => exact ⟨0, 0, Nat.zero_le _, rfl, rfl⟩
  case round =>
    obtain ⟨k, q, hk, rfl, rfl⟩ := hrel
    by_cases hlt : k < m
    · obtain ⟨b, off, rfl, _, _, hc⟩ := h.2 (by omega)
      obtain ⟨b', off', rfl, _, _, hc'⟩ := h'.2 (by omega)
      have hck := hc k hlt
      have hck' := hc' k hlt
      generalize zs.getD k 0 = z at hck hck'
      have hkl : (k : Int) < (m : Int) := by omega
      clear hc hc'
      go_wp2
      go_quiet (fail)
      go_wp2
      go_roundw
      case rel => exact ⟨k + 1, _, by omega, by go_num, rfl⟩
      case measure => simp [intOf]; omega
    · go_wp2
      go_ret
      exact ⟨rfl, Chg.drewN _ _ _ _⟩

/-- The numbers s, s + 1, .. -/
def marks (s n : Nat) : List Int := (List.range n).map fun i => ((s + i : Nat) : Int)

set_option maxHeartbeats 400000 in
/-- laws.heldInt64S of a slice that holds k, k + 1, .. -/
theorem heldInt64S (A : Option Addr) (n c s : Nat) (lo hi : Nat) (w : World) (h : Rd w lo hi A n (marks s n)) (hn : n ≤ 1048576) (hs : s ≤ 1048576) :
    Calls Tryd.prog 16 #[.slice A n c, .int .i64 (s : Int)] w fun e w' => e = .returned (.int .i64 ((s + n : Nat) : Int)) ∧ w = w' := by
  go_enter Tryd.func16, Tryd.ntmps16
  go_wp2
  go_loop [1, 5] (fun m i => ∃ k : Nat, k ≤ n ∧ i = .int .i64 k ∧ m = .int .i64 ((s + k : Nat) : Int)) (fun _ i => n - (intOf i).toNat)
  case atStart => exact ⟨0, Nat.zero_le _, rfl, rfl⟩
  case round =>
    obtain ⟨k, hk, rfl, rfl⟩ := hrel
    by_cases hlt : k < n
    · obtain ⟨b, off, rfl, _, _, hc⟩ := h.2 (by omega)
      have hck := hc k hlt
      have e : ((marks s n).getD k 0) = ((s + k : Nat) : Int) := by simp [marks, List.getD, hlt]
      rw [e] at hck
      have hkl : (k : Int) < (n : Int) := by omega
      clear hc e
      go_wp2
      go_round
      case rel => exact ⟨k + 1, by omega, by go_num, by go_num⟩
      case measure => simp [intOf]; omega
    · obtain rfl : k = n := by omega
      go_wp2
      go_ret
      exact ⟨rfl, rfl⟩

theorem marks_length (s n : Nat) : (marks s n).length = n := by simp [marks]
/-- The first k numbers are marked. -/
def marked (s k : Nat) (zs : List Int) : List Int := marks s k ++ zs.drop k
theorem marked_length (s k : Nat) (zs : List Int) (h : k ≤ zs.length) : (marked s k zs).length = zs.length := by simp [marked, marks]; omega
theorem marked_getD (s k j : Nat) (zs : List Int) : (marked s k zs).getD j 0 = if j < k then ((s + j : Nat) : Int) else zs.getD j 0 := by
  unfold marked marks
  by_cases h : j < k
  · rw [if_pos h]
    simp only [List.getD, List.getElem?_append, List.length_map, List.length_range, if_pos h]
    simp [h]
  · rw [if_neg h]
    simp only [List.getD, List.getElem?_append, List.length_map, List.length_range, if_neg h, List.getElem?_drop]
    rw [show k + (j - k) = j by omega]
theorem marked_all (s : Nat) (zs : List Int) : marked s zs.length zs = marks s zs.length := by simp [marked]

/-- One cell of an owned slice is written. -/
theorem Own.store {w : World} {lo hi b n k : Nat} {zs zs' : List Int} {z : Int} (h : Own w lo hi (some ⟨b, 0, none⟩) n zs) (hk : k < n) (hz : zs'.length = n) (hg : ∀ j, j < n → zs'.getD j 0 = if j = k then z else zs.getD j 0) :
    Own (w.setCell ⟨b, k, none⟩ (.int .i64 z)) lo hi (some ⟨b, 0, none⟩) n zs' := by
  refine ⟨hz, fun hn => ?_⟩
  obtain ⟨b', cs, e, h1, h2, hb, hc⟩ := h.2 hn
  obtain rfl : b = b' := by injection e with e; injection e
  refine ⟨b, cs.setIfInBounds k (.int .i64 z), rfl, h1, h2, by simp [World.setCell, Array.getElem?_modify, hb], fun j hj => ?_⟩
  rw [Array.getElem?_setIfInBounds, hg j hj]
  by_cases ek : k = j
  · subst ek
    have := Array.getElem?_eq_some_iff.1 (hc k hk)
    simp [this.1]
  · rw [if_neg ek, if_neg (by omega)]; exact hc j hj
theorem Chg.store {w w' : World} {lo hi b k : Nat} (h : Chg w w' lo hi) (h1 : lo ≤ b) (h2 : b < hi) (v : Value) : Chg w (w'.setCell ⟨b, k, none⟩ v) lo hi :=
  h.trans ⟨rfl, rfl, rfl, by simp [World.setCell], fun i _ ho => Below.heap_setCell _ _ _ _ (by show i ≠ b; omega)⟩

set_option maxHeartbeats 400000 in
/-- laws.markInt64S of a slice that owns its block -/
theorem markInt64S (A : Option Addr) (n c s : Nat) (zs : List Int) (lo hi : Nat) (w : World) (h : Own w lo hi A n zs) (hn : n ≤ 1048576) (hs : s ≤ 1048576) :
    Calls Tryd.prog 15 #[.slice A n c, .int .i64 (s : Int)] w fun e w' => e = .returned (.int .i64 ((s + n : Nat) : Int)) ∧ Own w' lo hi A n (marks s n) ∧ Chg w w' lo hi ∧ w.heap.size = w'.heap.size := by
  have hl := h.1
  go_enter Tryd.func15, Tryd.ntmps15
  go_wp2
  go_loopw [1, 5] (fun m i wr => ∃ k : Nat, k ≤ n ∧ i = .int .i64 k ∧ m = .int .i64 ((s + k : Nat) : Int) ∧ Own wr lo hi A n (marked s k zs) ∧ Chg w wr lo hi ∧ Hid (w.heap.size = wr.heap.size)) (fun _ i _ => n - (intOf i).toNat)
  case atStart => exact ⟨0, Nat.zero_le _, rfl, rfl, by simpa [marked, marks] using h, Chg.refl _ _ _, rfl⟩
  case round =>
    obtain ⟨k, hk, rfl, rfl, ho, hch, hsz⟩ := hrel
    by_cases hlt : k < n
    · obtain ⟨b, cs, rfl, h1, h2, hb, hc⟩ := ho.2 (by omega)
      have hcell : wr.cell? ⟨b, k, none⟩ = some (.int .i64 ((marked s k zs).getD k 0)) := by rw [cell_of_row wr b k cs _ _ hb]; exact hc k hlt
      have hfr : wr.frozen? ⟨b, k, none⟩ = false := by simp [World.frozen?, hb]
      generalize (marked s k zs).getD k 0 = z at hcell
      have hkl : (k : Int) < (n : Int) := by omega
      have ho' := ho.store (zs' := marked s (k + 1) zs) (z := ((s + k : Nat) : Int)) hlt (by rw [marked_length _ _ _ (by omega)]; exact hl) (fun j hj => by
        rw [marked_getD, marked_getD]
        by_cases e : j = k
        · subst e; simp
        · rw [if_neg e]; by_cases e2 : j < k
          · rw [if_pos e2, if_pos (by omega)]
          · rw [if_neg e2, if_neg (by omega)])
      have hch' := hch.store (k := k) h1 h2 (.int .i64 ((s + k : Nat) : Int))
      have hsz' : Hid (w.heap.size = (wr.setCell ⟨b, k, none⟩ (.int .i64 ((s + k : Nat) : Int))).heap.size) := by
        show _ = _; rw [hsz.out]; simp [World.setCell]
      clear hc hb ho hch hsz
      go_wp2
      go_roundw
      case rel => exact ⟨k + 1, by omega, by go_num, by go_num, ho', hch', hsz'⟩
      case measure => simp [intOf]; omega
    · obtain rfl : k = n := by omega
      have hf : Own wr lo hi A k (marks s k) := by
        have e := marked_all s zs
        rw [hl] at e
        rw [← e]; exact ho
      clear ho
      go_wp2
      go_ret
      exact ⟨rfl, hf, hch, hsz⟩

/-- The marks begin at 1. -/
theorem mark1 (A : Option Addr) (n c : Nat) (zs : List Int) (lo hi : Nat) (w : World) (h : Own w lo hi A n zs) (hn : n ≤ 1048576) :
    Calls Tryd.prog 15 #[.slice A n c, .int .i64 1] w fun e w' => e = .returned (.int .i64 (1 + (n : Int))) ∧ Own w' lo hi A n (marks 1 n) ∧ Chg w w' lo hi ∧ w.heap.size = w'.heap.size :=
  (markInt64S A n c 1 zs lo hi w h hn (by omega)).mono fun _ _ ⟨he, hr⟩ => ⟨by rw [he]; simp, hr⟩
theorem held1 (A : Option Addr) (n c : Nat) (lo hi : Nat) (w : World) (h : Rd w lo hi A n (marks 1 n)) (hn : n ≤ 1048576) :
    Calls Tryd.prog 16 #[.slice A n c, .int .i64 1] w fun e w' => e = .returned (.int .i64 (1 + (n : Int))) ∧ w = w' :=
  (heldInt64S A n c 1 lo hi w h hn (by omega)).mono fun _ _ ⟨he, hr⟩ => ⟨by rw [he]; simp, hr⟩

end Go.Proofs.YtgoaikamolcffaaDoor.Lib1
