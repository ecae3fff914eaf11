/- Rows of rows: a slice of slices of int64 that reads as a list of lists, and the size count of the exact laws over it. Rows of rows: the comparisons of the exact laws over them. Rows of rows: owned ones, and the copies that the exact laws make. Deals by value: the helpers of the exact laws over a deal. Rows of rows: the marks that the exact laws write into a result, and read again. Rows of rows: the comparisons of the laws over them. Slices of slices that a call grows by append, row by row; append inside a region that draws its order. -/
import Derived.Test.YteglffbeldlibaaBase1
import Derived.Deep.Matrix
import Derived.Lib.SmallJoins
import Derived.Handy
import Derived.Test.YteglffbeldlibaaBase2
import Derived.Deep.AppendLies
namespace Go.Proofs.Yteglffbeldlibaa.Lib1

section
open Go.RowKit
set_option maxRecDepth 100000

/-- The slice value with address A and length n reads as the list of lists zss; all of it lies in blocks of [lo, hi). -/
def RdR (w : World) (lo hi : Nat) (A : Option Addr) (n : Nat) (zss : List (List Int)) : Prop :=
  zss.length = n ∧ ∃ (B : Nat → Option Addr) (C : Nat → Nat),
    (0 < n → ∃ b off, A = some ⟨b, off, none⟩ ∧ lo ≤ b ∧ b < hi ∧ ∀ j, j < n → w.cell? ⟨b, off + j, none⟩ = some (.slice (B j) (zss.getD j []).length (C j))) ∧
    ∀ j, j < n → Rd w lo hi (B j) (zss.getD j []).length (zss.getD j []) ∧ (zss.getD j []).length ≤ C j ∧ (B j = none → C j = 0)

section
variable {w w' : World} {lo hi : Nat} {A : Option Addr} {n : Nat} {zss : List (List Int)}
theorem RdR.none_ : RdR w lo hi A 0 [] := ⟨rfl, fun _ => none, fun _ => 0, fun h => absurd h (by omega), fun _ h => absurd h (by omega)⟩
theorem RdR.chg {l h : Nat} (r : RdR w lo hi A n zss) (c : Chg w w' l h) (hd : hi ≤ l ∨ h ≤ lo) : RdR w' lo hi A n zss := by
  obtain ⟨h0, B, C, h1, h2⟩ := r
  refine ⟨h0, B, C, fun hn => ?_, fun j hj => ?_⟩
  · obtain ⟨b, off, e, l1, l2, hc⟩ := h1 hn
    exact ⟨b, off, e, l1, l2, fun j hj => by
      rw [World.cell?_of_block (c.block b (lt_of_cell (hc j hj)) (by omega))]; exact hc j hj⟩
  · obtain ⟨hr, hl, hp⟩ := h2 j hj
    exact ⟨hr.chg c hd, hl, hp⟩
theorem RdR.still (r : RdR w lo hi A n zss) (c : Chg w w' 0 0) : RdR w' lo hi A n zss := r.chg c (.inr (Nat.zero_le _))
theorem RdR.drewN (r : RdR w lo hi A n zss) (q : Nat) : RdR (w.drewN q) lo hi A n zss := r.still (Chg.drewN _ _ _ _)
theorem RdR.more {lo' hi' : Nat} (r : RdR w lo hi A n zss) (h1 : lo' ≤ lo) (h2 : hi ≤ hi') : RdR w lo' hi' A n zss := by
  obtain ⟨h0, B, C, h3, h4⟩ := r
  refine ⟨h0, B, C, fun hn => ?_, fun j hj => ?_⟩
  · obtain ⟨b, off, e, l1, l2, hc⟩ := h3 hn
    exact ⟨b, off, e, by omega, by omega, hc⟩
  · obtain ⟨hr, hl, hp⟩ := h4 j hj
    exact ⟨hr.more h1 h2, hl, hp⟩
theorem RdR.below {B : Nat} (r : RdR w lo hi A n zss) (c : Below B w w') (hd : hi ≤ B) : RdR w' lo hi A n zss := by
  obtain ⟨h0, D, C, h1, h2⟩ := r
  refine ⟨h0, D, C, fun hn => ?_, fun j hj => ?_⟩
  · obtain ⟨b, off, e, l1, l2, hc⟩ := h1 hn
    exact ⟨b, off, e, l1, l2, fun j hj => by
      rw [World.cell?_of_block (c.block b (by omega))]; exact hc j hj⟩
  · obtain ⟨hr, hl, hp⟩ := h2 j hj
    exact ⟨hr.below c hd, hl, hp⟩
/-- One row of it. -/
theorem RdR.at_ (r : RdR w lo hi A n zss) {j : Nat} (hj : j < n) : ∃ b off B C, A = some ⟨b, off, none⟩ ∧ lo ≤ b ∧ b < hi ∧ w.cell? ⟨b, off + j, none⟩ = some (.slice B (zss.getD j []).length C) ∧
    Rd w lo hi B (zss.getD j []).length (zss.getD j []) ∧ (zss.getD j []).length ≤ C ∧ (B = none → C = 0) := by
  obtain ⟨_, B, C, h1, h2⟩ := r
  obtain ⟨b, off, e, l1, l2, hc⟩ := h1 (by omega)
  obtain ⟨hr, hl, hp⟩ := h2 j hj
  exact ⟨b, off, B j, C j, e, l1, l2, hc j hj, hr, hl, hp⟩
end

/-- laws.szInt64S -/
theorem szInt64S (A : Option Addr) (n c : Nat) (k : Int) (w : World) (h0 : 0 ≤ k) (h1 : k ≤ 1048576) (hn : n ≤ maxLen) :
    Calls Try.prog 103 #[.slice A n c, .int .i64 k] w fun e w' => e = .returned (.int .i64 (if (n : Int) ≤ k then k - n else -1)) ∧ w = w' := by
  unfold maxLen at hn
  by_cases hk : (n : Int) ≤ k
  · rw [if_pos hk]
    go_enter Try.func103, Try.ntmps103
    go_wp2
    go_ret
    exact ⟨rfl, rfl⟩
  · rw [if_neg hk]
    go_enter Try.func103, Try.ntmps103
    go_wp2
    go_ret
    exact ⟨rfl, rfl⟩

/-- How many numbers lie in the first k rows. -/
def cnt (zss : List (List Int)) : Nat → Nat
  | 0 => 0
  | k + 1 => cnt zss k + (zss.getD k []).length
/-- The count of the sizes came to an end: what is left, or a number below zero; where it is not, every length is at most what there was. -/
def Sized (k : Int) (n : Nat) (zss : List (List Int)) (v : Int) : Prop := v = -1 ∨ (0 ≤ v ∧ v ≤ k ∧ (n : Int) ≤ k ∧ (∀ j, j < n → ((zss.getD j []).length : Int) ≤ k) ∧ (n : Int) + cnt zss n ≤ k)
def Lens (n : Nat) (zss : List (List Int)) : Prop := n ≤ maxLen ∧ ∀ j, j < n → (zss.getD j []).length ≤ maxLen

set_option maxHeartbeats 800000 in
/-- laws.szInt64SS -/
theorem szInt64SS (A : Option Addr) (n c : Nat) (k : Int) (zss : List (List Int)) (lo hi : Nat) (w : World) (h : RdR w lo hi A n zss) (h0 : 0 ≤ k) (h1 : k ≤ 1048576) (hn : Lens n zss) :
    Calls Try.prog 105 #[.slice A n c, .int .i64 k] w fun e w' => ∃ v, e = .returned (.int .i64 v) ∧ Sized k n zss v ∧ w = w' := by
  obtain ⟨hn, HL⟩ := hn
  have hm : n ≤ 9223372036854775807 := by unfold maxLen at hn; omega
  by_cases hk : (n : Int) ≤ k
  · go_enter Try.func105, Try.ntmps105
    go_wp2
    go_loopw [1, 5] (fun l i wr => ∃ (j : Nat) (v : Int), j ≤ n ∧ i = .int .i64 j ∧ l = .int .i64 v ∧ 0 ≤ v ∧ v ≤ k ∧ (∀ m, m < j → ((zss.getD m []).length : Int) ≤ k) ∧ Hid (v = k - n - (cnt zss j : Int)) ∧ w = wr) (fun _ i _ => n - (intOf i).toNat)
    case atStart => exact ⟨0, _, Nat.zero_le _, rfl, rfl, by omega, by omega, fun _ h => absurd h (by omega), by show _ = _; simp [cnt], rfl⟩
    case round =>
      obtain ⟨j, v, hj, rfl, rfl, v0, v1, hm, hcn, rfl⟩ := hrel
      have HM := Lib.hid hm
      clear hm
      by_cases hlt : j < n
      · obtain ⟨b, off, B, C, rfl, _, _, hc, _, _, _⟩ := h.at_ hlt
        have hln := HL j hlt
        have hltI : (j : Int) < (n : Int) := by omega
        generalize hL : (zss.getD j []).length = L at hc hln
        have HLL := Lib.hid hL
        clear hL
        by_cases hle : (L : Int) ≤ v
        · go_wp2_with (go_at_call 103; refine (szInt64S _ _ _ _ _ v0 (by omega) hln).mono ?_; rintro e w' ⟨rfl, rfl⟩; rw [if_pos hle])
          go_roundw
          case rel => exact ⟨j + 1, v - L, by omega, by go_num, rfl, by omega, by omega, fun m hm => by
            rcases Nat.lt_or_ge m j with h2 | h2
            · exact HM.out m h2
            · obtain rfl : m = j := by omega
              rw [HLL.out]; omega, by show _ = _; have := hcn.out; rw [cnt, HLL.out]; omega, trivial⟩
          case measure => simp [intOf]; omega
        · go_wp2_with (go_at_call 103; refine (szInt64S _ _ _ _ _ v0 (by omega) hln).mono ?_; rintro e w' ⟨rfl, rfl⟩; rw [if_neg hle])
          go_ret
          exact ⟨_, rfl, .inl rfl, rfl⟩
      · obtain rfl : j = n := by omega
        go_wp2
        go_ret
        exact ⟨_, rfl, .inr ⟨v0, v1, hk, HM.out, by have := hcn.out; omega⟩, rfl⟩
  · go_enter Try.func105, Try.ntmps105
    go_wp2
    go_ret
    exact ⟨_, rfl, .inl rfl, rfl⟩

/-- laws.szDeal -/
theorem szDeal (A : Option Addr) (n c : Nat) (k : Int) (zss : List (List Int)) (lo hi : Nat) (w : World) (h : RdR w lo hi A n zss) (h0 : 0 ≤ k) (h1 : k ≤ 1048576) (hn : Lens n zss) :
    Calls Try.prog 43 #[.agg #[.slice A n c], .int .i64 k] w fun e w' => ∃ v, e = .returned (.int .i64 v) ∧ Sized k n zss v ∧ Chg w w' 0 0 := by
  go_enter Try.func43, Try.ntmps43
  go_wp2_with (go_at_call 105; refine (szInt64SS A n c k zss lo hi _ (h.still (Chg.of_alloc _ _ _ _)) h0 h1 hn).mono ?_; rintro e w1 ⟨v, rfl, hv, rfl⟩)
  case _ =>
    go_ret
    exact ⟨_, rfl, .inl rfl, Chg.of_alloc _ _ _ _⟩
  case _ =>
    go_ret
    exact ⟨_, rfl, hv, Chg.of_alloc _ _ _ _⟩
end

section
open Go.RowKit
set_option maxRecDepth 100000

set_option maxHeartbeats 400000 in
/-- laws.eqInt64S of two slices that read alike: the world is the same but for drawn orders. -/
theorem eqInt64SQ (A B : Option Addr) (n m c d : Nat) (zs : List Int) (lo hi lo' hi' : Nat) (w : World) (h : Rd w lo hi A n zs) (h' : Rd w lo' hi' B m zs) (hn : n ≤ 1048576) :
    Calls Try.prog 47 #[.slice A n c, .slice B m d] w fun e w' => e = .returned (.bool true) ∧ ∃ q, w' = w.drewN q := by
  obtain rfl : m = n := by rw [← h.1, ← h'.1]
  go_enter Try.func47, Try.ntmps47
  go_wp2
  go_loopw [5] (fun i wr => ∃ k q : Nat, k ≤ m ∧ i = .int .i64 k ∧ wr = w.drewN q) (fun i _ => m - (intOf i).toNat)
  case atStart => exact ⟨0, 0, Nat.zero_le _, rfl, rfl⟩
  case round =>
    obtain ⟨k, q, hk, rfl, rfl⟩ := hrel
    by_cases hlt : k < m
    · obtain ⟨b, off, rfl, _, _, hc⟩ := h.2 (by omega)
      obtain ⟨b', off', rfl, _, _, hc'⟩ := h'.2 (by omega)
      have hck := hc k hlt
      have hck' := hc' k hlt
      generalize zs.getD k 0 = z at hck hck'
      have hkl : (k : Int) < (m : Int) := by omega
      clear hc hc'
      go_wp2
      go_quiet (fail)
      go_wp2
      go_roundw
      case rel => exact ⟨k + 1, _, by omega, by go_num, rfl⟩
      case measure => simp [intOf]; omega
    · go_wp2
      go_ret
      exact ⟨rfl, q, rfl⟩
theorem drew_drew (w : World) (a b : Nat) : ∃ m, (w.drewN a).drewN b = w.drewN m := ⟨a + b, by simp [World.drewN, Nat.add_assoc]⟩
theorem quiet_add' {P : Program} {f : FuncId} {args : Array Value} {w : World} {a n : Nat} {v : Value}
    (h : Calls P f args (w.drewN (a + n)) fun e w' => e = .returned v ∧ ∃ q, w' = (w.drewN (a + n)).drewN q) :
    Calls P f args (w.drewN (a + n)) fun e w'' => e = .returned v ∧ ∃ m, w'' = w.drewN (a + m) :=
  h.mono fun _ _ ⟨he, q, hm⟩ => ⟨he, n + q, by rw [hm]; simp [World.drewN, Nat.add_assoc]⟩

set_option maxHeartbeats 800000 in
/-- laws.eqInt64SS of two that read alike -/
theorem eqInt64SS (A B : Option Addr) (n m c d : Nat) (zss : List (List Int)) (lo hi lo' hi' : Nat) (w : World) (h : RdR w lo hi A n zss) (h' : RdR w lo' hi' B m zss) (hn : n ≤ 1048576) (hl : ∀ j, j < n → (zss.getD j []).length ≤ 1048576) :
    Calls Try.prog 57 #[.slice A n c, .slice B m d] w fun e w' => e = .returned (.bool true) ∧ Chg w w' 0 0 := by
  obtain rfl : m = n := by rw [← h.1, ← h'.1]
  go_enter Try.func57, Try.ntmps57
  go_wp2
  go_loopw [5] (fun i wr => ∃ k q : Nat, k ≤ m ∧ i = .int .i64 k ∧ wr = w.drewN q) (fun i _ => m - (intOf i).toNat)
  case atStart => exact ⟨0, 0, Nat.zero_le _, rfl, rfl⟩
  case round =>
    obtain ⟨k, q, hk, rfl, rfl⟩ := hrel
    by_cases hlt : k < m
    · obtain ⟨b, off, R, C, rfl, _, _, hc, hr, _, _⟩ := h.at_ hlt
      obtain ⟨b', off', R', C', rfl, _, _, hc', hr', _, _⟩ := h'.at_ hlt
      have hln := hl k hlt
      have HR := Lib.hid hr
      have HR' := Lib.hid hr'
      generalize (zss.getD k []) = zs at hc hc' HR HR' hln
      have hkl : (k : Int) < (m : Int) := by omega
      clear hr hr'
      go_wp2
      go_quiet ((go_at_call 47; exact quiet_add' (eqInt64SQ _ _ _ _ _ _ zs _ _ _ _ _ (HR.out.drewN _) (HR'.out.drewN _) hln)))
      go_wp2
      go_roundw
      case rel => exact ⟨k + 1, _, by omega, by go_num, rfl⟩
      case measure => simp [intOf]; omega
    · go_wp2
      go_ret
      exact ⟨rfl, Chg.drewN _ _ _ _⟩
end

section
open Go.RowKit
set_option maxRecDepth 100000

/-- .. and begins an unfrozen block of its own, as does each of its rows. -/
def OwnR (w : World) (lo hi : Nat) (A : Option Addr) (n : Nat) (zss : List (List Int)) : Prop :=
  zss.length = n ∧ ∃ (B : Nat → Option Addr) (C : Nat → Nat),
    (0 < n → ∃ b cs, A = some ⟨b, 0, none⟩ ∧ lo ≤ b ∧ b < hi ∧ w.heap[b]? = some (.cells cs 27 (0, 0)) ∧ (∀ j, j < n → cs[j]? = some (.slice (B j) (zss.getD j []).length (C j))) ∧
      ∀ j, j < n → 0 < (zss.getD j []).length → ∀ x, B j = some x → x.block ≠ b) ∧
    (∀ j, j < n → Own w lo hi (B j) (zss.getD j []).length (zss.getD j []) ∧ (zss.getD j []).length ≤ C j ∧ Plain (B j) (C j)) ∧
    ∀ i j, i < j → j < n → 0 < (zss.getD i []).length → 0 < (zss.getD j []).length → ∀ x y, B i = some x → B j = some y → x.block ≠ y.block

theorem plain_nil {A : Option Addr} {c : Nat} (h : Plain A c) : A = none → c = 0 := fun e => by
  rcases h with ⟨_, h⟩ | ⟨b, off, h⟩
  · exact h
  · rw [h] at e; cases e
section
variable {w w' : World} {lo hi : Nat} {A : Option Addr} {n : Nat} {zss : List (List Int)}
theorem OwnR.none_ : OwnR w lo hi A 0 [] := ⟨rfl, fun _ => none, fun _ => 0, fun h => absurd h (by omega), fun _ h => absurd h (by omega), fun _ _ _ h => absurd h (by omega)⟩
theorem OwnR.rd (r : OwnR w lo hi A n zss) : RdR w lo hi A n zss := by
  obtain ⟨h0, B, C, h1, h2, _⟩ := r
  refine ⟨h0, B, C, fun hn => ?_, fun j hj => ?_⟩
  · obtain ⟨b, cs, e, l1, l2, hb, hc, _⟩ := h1 hn
    exact ⟨b, 0, e, l1, l2, fun j hj => by rw [Nat.zero_add, cell_of_row w b j cs _ _ hb]; exact hc j hj⟩
  · obtain ⟨ho, hl, hp⟩ := h2 j hj
    exact ⟨ho.rd, hl, plain_nil hp⟩
theorem OwnR.chg {l h : Nat} (r : OwnR w lo hi A n zss) (c : Chg w w' l h) (hd : hi ≤ l ∨ h ≤ lo) : OwnR w' lo hi A n zss := by
  obtain ⟨h0, B, C, h1, h2, h3⟩ := r
  refine ⟨h0, B, C, fun hn => ?_, fun j hj => ?_, h3⟩
  · obtain ⟨b, cs, e, l1, l2, hb, hc⟩ := h1 hn
    exact ⟨b, cs, e, l1, l2, (c.block b (lt_of_block hb) (by omega)).trans hb, hc⟩
  · obtain ⟨ho, hl, hp⟩ := h2 j hj
    exact ⟨ho.chg c hd, hl, hp⟩
theorem OwnR.still (r : OwnR w lo hi A n zss) (c : Chg w w' 0 0) : OwnR w' lo hi A n zss := r.chg c (.inr (Nat.zero_le _))
end

/-- The first k rows are copied. -/
def LaidR (w wr : World) (n k : Nat) (zss : List (List Int)) : Prop :=
  ∃ (cs : Array Value) (B : Nat → Nat), wr.heap[w.heap.size]? = some (.cells cs 27 (0, 0)) ∧ cs.size = n ∧ Below w.heap.size w wr ∧
    (∀ j, j < k → cs[j]? = some (.slice (some ⟨B j, 0, none⟩) (zss.getD j []).length (zss.getD j []).length) ∧ w.heap.size < B j ∧ Own wr (w.heap.size + 1) wr.heap.size (some ⟨B j, 0, none⟩) (zss.getD j []).length (zss.getD j [])) ∧
    ∀ i j, i < j → j < k → 0 < (zss.getD i []).length → B i < B j
theorem LaidR.start (w : World) (cs : Array Value) (n : Nat) (zss : List (List Int)) (h : cs.size = n) : LaidR w (w.alloc (.cells cs 27)) n 0 zss :=
  ⟨cs, fun _ => 0, heap_alloc_new w _, h, (Below.refl _ _).alloc (Nat.le_refl _) _, fun _ h => absurd h (by omega), fun _ _ _ h => absurd h (by omega)⟩
theorem LaidR.cell {w wr : World} {n k : Nat} {zss : List (List Int)} (h : LaidR w wr n k zss) {w1 : World} (c : Chg wr w1 0 0) (hk : k < n) :
    (∃ u, w1.cell? ⟨w.heap.size, k, none⟩ = some u) ∧ w1.frozen? ⟨w.heap.size, k, none⟩ = false := by
  obtain ⟨cs, B, hb, hs, _⟩ := h
  have hb1 := (c.block _ (lt_of_block hb) (.inr (Nat.zero_le _))).trans hb
  refine ⟨⟨cs[k]'(by omega), ?_⟩, by simp [World.frozen?, hb1]⟩
  rw [cell_of_row w1 _ k cs _ _ hb1]
  exact Array.getElem?_eq_getElem (by omega)
theorem LaidR.step {w wr w1 : World} {n k : Nat} {zss : List (List Int)} (h : LaidR w wr n k zss) (hk : k < n) (c : Chg wr w1 0 0)
    (ho : Own w1 wr.heap.size w1.heap.size (some ⟨wr.heap.size, 0, none⟩) (zss.getD k []).length (zss.getD k [])) :
    LaidR w (w1.setCell ⟨w.heap.size, k, none⟩ (.slice (some ⟨wr.heap.size, 0, none⟩) (zss.getD k []).length (zss.getD k []).length)) n (k + 1) zss := by
  obtain ⟨cs, B, hb, hs, hbel, hrow, hord⟩ := h
  have hg := lt_of_block hb
  have hb1 := (c.block _ hg (.inr (Nat.zero_le _))).trans hb
  have hz := c.size
  generalize hv : (Value.slice (some ⟨wr.heap.size, 0, none⟩) (zss.getD k []).length (zss.getD k []).length) = v
  have cst : Chg w1 (w1.setCell ⟨w.heap.size, k, none⟩ v) w.heap.size (w.heap.size + 1) := (Chg.refl _ _ _).store (Nat.le_refl _) (by omega) v
  have hz2 : (w1.setCell ⟨w.heap.size, k, none⟩ v).heap.size = w1.heap.size := by simp [World.setCell]
  refine ⟨cs.setIfInBounds k v, fun j => if j = k then wr.heap.size else B j, by simp [World.setCell, Array.getElem?_modify, hb1], by simpa using hs, ?_, fun j hj => ?_, fun i j hij hj hi => ?_⟩
  · exact Chg.above (Chg.above hbel c hbel.size (.inr rfl)) cst (by have := hbel.size; omega) (.inl (Nat.le_refl _))
  · rw [hz2]
    dsimp only
    by_cases e : j = k
    · subst e
      refine ⟨by rw [if_pos rfl, ← hv]; simp [hs, hk], by rw [if_pos rfl]; omega, ?_⟩
      rw [if_pos rfl]
      exact (ho.more (by omega) (Nat.le_refl _)).chg cst (.inr (Nat.le_refl _))
    · rw [if_neg e]
      obtain ⟨r1, r2, r3⟩ := hrow j (by omega)
      refine ⟨by rw [Array.getElem?_setIfInBounds, if_neg (by omega)]; exact r1, r2, ?_⟩
      exact ((r3.still c).more (Nat.le_refl _) hz).chg cst (.inr (Nat.le_refl _))
  · dsimp only
    rw [if_neg (show ¬ i = k by omega)]
    by_cases e : j = k
    · rw [if_pos e]
      obtain ⟨_, _, r3⟩ := hrow i (by omega)
      obtain ⟨b, _, e1, _, e2, _⟩ := r3.2 hi
      injection e1 with e1
      injection e1 with e1
      omega
    · rw [if_neg e]
      exact hord i j hij (by omega) hi
theorem LaidR.done {w wr : World} {n : Nat} {zss : List (List Int)} (h : LaidR w wr n n zss) (hl : zss.length = n) : OwnR wr w.heap.size wr.heap.size (some ⟨w.heap.size, 0, none⟩) n zss ∧ Chg w wr 0 0 := by
  obtain ⟨cs, B, hb, hs, hbel, hrow, hord⟩ := h
  refine ⟨⟨hl, fun j => some ⟨B j, 0, none⟩, fun j => (zss.getD j []).length, fun _ => ⟨w.heap.size, cs, rfl, Nat.le_refl _, lt_of_block hb, hb, fun j hj => (hrow j hj).1, fun j hj _ x hx => ?_⟩, fun j hj => ?_, fun i j hij hj hi _ x y hx hy => ?_⟩, Chg.of_below hbel _ _⟩
  · injection hx with hx
    subst hx
    have := (hrow j hj).2.1
    show B j ≠ w.heap.size
    omega
  · exact ⟨(hrow j hj).2.2.more (by omega) (Nat.le_refl _), Nat.le_refl _, Plain.at_ _ _ _⟩
  · injection hx with hx
    injection hy with hy
    subst hx hy
    have := hord i j hij hj hi
    show B i ≠ B j
    omega

theorem rows_info : (Try.prog.info? 27).map (fun i => (i.zero, i.size, i.bytes)) = some (some (.slice none 0 0), 1, 24) := by kernel_rfl

set_option maxHeartbeats 800000 in
/-- laws.toInt64SS -/
theorem toInt64SS (A : Option Addr) (n c : Nat) (zss : List (List Int)) (lo hi : Nat) (w : World) (h : RdR w lo hi A n zss) (hn : n ≤ 1048576) (hl : ∀ j, j < n → (zss.getD j []).length ≤ 1048576) :
    Calls Try.prog 106 #[.slice A n c] w fun e w' => e = .returned (.slice (some ⟨w.heap.size, 0, none⟩) n n) ∧ OwnR w' w.heap.size w'.heap.size (some ⟨w.heap.size, 0, none⟩) n zss ∧ Chg w w' 0 0 := by
  have hmk := fun W => run_make_row' (P := Try.prog) 24 27 (.slice none 0 0) 24 Try.underlying24 rows_info rfl .i64 .i64 n (by omega) (by omega) W
  go_enter Try.func106, Try.ntmps106
  go_wp2
  clear hmk
  go_loopw [4] (fun i wr => ∃ k : Nat, k ≤ n ∧ i = .int .i64 k ∧ LaidR w wr n k zss) (fun i _ => n - (intOf i).toNat)
  case atStart => exact ⟨0, Nat.zero_le _, rfl, LaidR.start w _ n zss (size_madeCells _ _)⟩
  case round =>
    obtain ⟨k, hk, rfl, hla⟩ := hrel
    by_cases hlt : k < n
    · have hbel : Below w.heap.size w wr := by obtain ⟨_, _, _, _, hb, _⟩ := hla; exact hb
      have h' := h.chg (Chg.of_below hbel 0 0) (.inr (Nat.zero_le _))
      obtain ⟨b, off, R, C, rfl, _, _, hc, hr, _, _⟩ := h'.at_ hlt
      have hln := hl k hlt
      have hkl : (k : Int) < (n : Int) := by omega
      have HS : Hid (∀ w1, Chg wr w1 0 0 → Own w1 wr.heap.size w1.heap.size (some ⟨wr.heap.size, 0, none⟩) (zss.getD k []).length (zss.getD k []) → LaidR w (w1.setCell ⟨w.heap.size, k, none⟩ (.slice (some ⟨wr.heap.size, 0, none⟩) (zss.getD k []).length (zss.getD k []).length)) n (k + 1) zss) := fun w1 c1 o1 => hla.step hlt c1 o1
      have HC : Hid (∀ w1, Chg wr w1 0 0 → (∃ u, w1.cell? ⟨w.heap.size, k, none⟩ = some u) ∧ w1.frozen? ⟨w.heap.size, k, none⟩ = false) := fun w1 c1 => hla.cell c1 hlt
      clear hla hbel h'
      generalize (zss.getD k []) = zs at hc hr hln HS
      go_wp2_with (go_at_call 104; refine (toInt64S R zs.length C zs _ _ _ hr hln).mono ?_; rintro e w1 ⟨rfl, o1, c1⟩; obtain ⟨⟨u, hu⟩, hfz⟩ := HC.out w1 c1)
      have hla' := HS.out w1 c1 o1
      go_roundw
      case rel => exact ⟨k + 1, by omega, by go_num, hla'⟩
      case measure => simp [intOf]; omega
    · obtain rfl : k = n := by omega
      have hd := hla.done h.1
      clear hla
      go_wp2
      go_ret
      exact ⟨rfl, hd.1, hd.2⟩
end

section
open Go.RowKit
set_option maxRecDepth 100000

theorem OwnR.more {w : World} {lo hi lo' hi' : Nat} {A : Option Addr} {n : Nat} {zss : List (List Int)} (r : OwnR w lo hi A n zss) (h1 : lo' ≤ lo) (h2 : hi ≤ hi') : OwnR w lo' hi' A n zss := by
  obtain ⟨h0, B, C, h3, h4, h5⟩ := r
  refine ⟨h0, B, C, fun hn => ?_, fun j hj => ?_, h5⟩
  · obtain ⟨b, cs, e, l1, l2, hc⟩ := h3 hn
    exact ⟨b, cs, e, by omega, by omega, hc⟩
  · obtain ⟨ho, hl, hp⟩ := h4 j hj
    exact ⟨ho.more h1 h2, hl, hp⟩

/-- laws.eqDeal of two that read alike -/
theorem eqDeal (A B : Option Addr) (n m c d : Nat) (zss : List (List Int)) (lo hi lo' hi' : Nat) (w : World) (h : RdR w lo hi A n zss) (h' : RdR w lo' hi' B m zss) (hn : n ≤ 1048576) (hl : ∀ j, j < n → (zss.getD j []).length ≤ 1048576) :
    Calls Try.prog 45 #[.agg #[.slice A n c], .agg #[.slice B m d]] w fun e w' => e = .returned (.bool true) ∧ Chg w w' 0 0 := by
  go_enter Try.func45, Try.ntmps45
  go_wp2_with fail
  refine (eqInt64SS A B n m c d zss lo hi lo' hi' _ (h.still ((Chg.of_alloc _ _ _ _).trans (Chg.of_alloc _ _ _ _))) (h'.still ((Chg.of_alloc _ _ _ _).trans (Chg.of_alloc _ _ _ _))) hn hl).mono ?_
  rintro e w1 ⟨rfl, c1⟩
  go_wp2_with fail
  go_ret
  exact ⟨rfl, ((Chg.of_alloc _ _ _ _).trans (Chg.of_alloc _ _ _ _)).trans c1⟩

/-- The last two stores of laws.toDeal go into blocks of its own, ahead of the copy. -/
theorem to_end {w w1 : World} {o1 o2 o3 : Obj} {n : Nat} {zss : List (List Int)} (c1 : Chg (((w.alloc o1).alloc o2).alloc o3) w1 0 0)
    (h : OwnR w1 (((w.alloc o1).alloc o2).alloc o3).heap.size w1.heap.size (some ⟨(((w.alloc o1).alloc o2).alloc o3).heap.size, 0, none⟩) n zss) (u v : Value) :
    OwnR ((w1.setCell ⟨w.heap.size + 2, 0, none⟩ u).setCell ⟨w.heap.size + 1, 0, none⟩ v) w.heap.size ((w1.setCell ⟨w.heap.size + 2, 0, none⟩ u).setCell ⟨w.heap.size + 1, 0, none⟩ v).heap.size (some ⟨w.heap.size + 3, 0, none⟩) n zss ∧
      Chg w ((w1.setCell ⟨w.heap.size + 2, 0, none⟩ u).setCell ⟨w.heap.size + 1, 0, none⟩ v) 0 0 := by
  have hz : (((w.alloc o1).alloc o2).alloc o3).heap.size = w.heap.size + 3 := by simp
  have hs := c1.size
  rw [hz] at h hs
  have cst : Chg w1 ((w1.setCell ⟨w.heap.size + 2, 0, none⟩ u).setCell ⟨w.heap.size + 1, 0, none⟩ v) (w.heap.size + 1) (w.heap.size + 3) :=
    ((Chg.refl _ _ _).store (by omega) (by omega) u).store (by omega) (by omega) v
  have b0 : Below w.heap.size w (((w.alloc o1).alloc o2).alloc o3) := (((Chg.of_alloc _ _ 0 0).trans (Chg.of_alloc _ _ _ _)).trans (Chg.of_alloc _ _ _ _)).to_below
  have b1 := Chg.above b0 c1 (by omega) (.inr rfl)
  exact ⟨(h.chg cst (.inr (Nat.le_refl _))).more (by omega) (by simp [World.setCell]), Chg.of_below (Chg.above b1 cst (by omega) (.inl (by omega))) _ _⟩

/-- laws.toDeal -/
theorem toDeal (A : Option Addr) (n c : Nat) (zss : List (List Int)) (lo hi : Nat) (w : World) (h : RdR w lo hi A n zss) (hn : n ≤ 1048576) (hl : ∀ j, j < n → (zss.getD j []).length ≤ 1048576) :
    Calls Try.prog 44 #[.agg #[.slice A n c]] w fun e w' => ∃ g, e = .returned (.agg #[.slice (some ⟨g, 0, none⟩) n n]) ∧ OwnR w' w.heap.size w'.heap.size (some ⟨g, 0, none⟩) n zss ∧ Chg w w' 0 0 := by
  go_enter Try.func44, Try.ntmps44
  go_wp2_with fail
  have c0 : Chg w (((w.alloc (.cells #[.slice A n c] 57)).alloc (.cells #[.slice none 0 0] 26)).alloc (.cells #[.slice none 0 0] 26)) 0 0 := ((Chg.of_alloc _ _ _ _).trans (Chg.of_alloc _ _ _ _)).trans (Chg.of_alloc _ _ _ _)
  refine (toInt64SS A n c zss lo hi _ (h.still c0) hn hl).mono ?_
  rintro e w1 ⟨rfl, o1, c1⟩
  have hb2 : w1.heap[w.heap.size + 2]? = some (.cells #[.slice none 0 0] 26 (0, 0)) := (c1.block _ (by simp) (.inr (Nat.zero_le _))).trans (by
    have := heap_alloc_new ((w.alloc (.cells #[.slice A n c] 57)).alloc (.cells #[.slice none 0 0] 26)) (.cells #[.slice none 0 0] 26)
    simpa using this)
  have hb1 : w1.heap[w.heap.size + 1]? = some (.cells #[.slice none 0 0] 26 (0, 0)) := (c1.block _ (by simp) (.inr (Nat.zero_le _))).trans ((Below.heap_alloc _ _ _ (by simp)).trans (by
    have := heap_alloc_new (w.alloc (.cells #[.slice A n c] 57)) (.cells #[.slice none 0 0] 26)
    simpa using this))
  have k1 : w1.cell? ⟨w.heap.size + 1, 0, none⟩ = some (.slice none 0 0) := by rw [cell_of_row _ _ _ _ _ _ hb1]; rfl
  have k2 : w1.cell? ⟨w.heap.size + 2, 0, none⟩ = some (.slice none 0 0) := by rw [cell_of_row _ _ _ _ _ _ hb2]; rfl
  have f1 : w1.frozen? ⟨w.heap.size + 1, 0, none⟩ = false := by simp [World.frozen?, hb1]
  have f2 : w1.frozen? ⟨w.heap.size + 2, 0, none⟩ = false := by simp [World.frozen?, hb2]
  have hfin : ∀ u v, ((w1.setCell ⟨w.heap.size + 1 + 1, 0, none⟩ u).setCell ⟨w.heap.size + 1, 0, none⟩ v).cell? ⟨w.heap.size + 1, 0, none⟩ = some v := fun u v => by
    have h3 : (w1.setCell ⟨w.heap.size + 1 + 1, 0, none⟩ u).heap[w.heap.size + 1]? = some (.cells #[.slice none 0 0] 26 (0, 0)) := (Below.heap_setCell _ _ _ _ (by show w.heap.size + 1 ≠ w.heap.size + 1 + 1; omega)).trans hb1
    rw [cell_of_row _ _ _ #[v] 26 (0, 0) (by simp [World.setCell, Array.getElem?_modify] at h3 ⊢; simp [h3])]
    rfl
  have HC := Lib.hid c1
  have HO := Lib.hid o1
  clear c0 c1 o1 hb1 hb2
  go_wp2_with fail
  (try simp only [Exit.inBlock, Exit.then])
  refine bodyPost_ret (v := .agg #[.slice (some ⟨w.heap.size + 1 + 1 + 1, 0, none⟩) n n]) (by simp [results, Try.results44, go_sem, hfin]; try rfl) rfl ?_
  exact ⟨_, rfl, to_end HC.out HO.out _ _⟩
end

section
open Go.RowKit
set_option maxRecDepth 100000

theorem Own.narrow {w : World} {lo hi : Nat} {A : Option Addr} {n : Nat} {zs : List Int} (h : Own w lo hi A n zs) (hn : 0 < n) : ∃ b, A = some ⟨b, 0, none⟩ ∧ lo ≤ b ∧ b < hi ∧ Own w b (b + 1) A n zs := by
  obtain ⟨b, cs, e, h1, h2, hb, hc⟩ := h.2 hn
  exact ⟨b, e, h1, h2, h.1, fun _ => ⟨b, cs, e, Nat.le_refl _, by omega, hb, hc⟩⟩
theorem Own.empty {w : World} {lo hi : Nat} {A : Option Addr} {n : Nat} {zs : List Int} (h : zs.length = n) (h0 : n = 0) : Own w lo hi A n zs := ⟨h, fun hn => absurd hn (by omega)⟩
theorem set_getD (zss : List (List Int)) (j i : Nat) (zs : List Int) (hj : j < zss.length) : (zss.set j zs).getD i [] = if i = j then zs else zss.getD i [] := by
  simp only [List.getD, List.getElem?_set]
  by_cases e : j = i
  · subst e; simp [hj]
  · rw [if_neg e, if_neg (by omega)]

/-- One row of it alone: what is written there leaves the rest. -/
theorem OwnR.split {w : World} {lo hi : Nat} {A : Option Addr} {n : Nat} {zss : List (List Int)} (r : OwnR w lo hi A n zss) {j : Nat} (hj : j < n) :
    ∃ b B C l h, A = some ⟨b, 0, none⟩ ∧ w.cell? ⟨b, j, none⟩ = some (.slice B (zss.getD j []).length C) ∧ Own w l h B (zss.getD j []).length (zss.getD j []) ∧ ((lo ≤ l ∧ h ≤ hi) ∨ h = 0) ∧
      ∀ w' zs', zs'.length = (zss.getD j []).length → Own w' l h B (zss.getD j []).length zs' → Chg w w' l h → OwnR w' lo hi A n (zss.set j zs') := by
  obtain ⟨h0, B, C, h1, h2, h3⟩ := r
  obtain ⟨b, cs, e, l1, l2, hb, hc, hap⟩ := h1 (by omega)
  have hcell : w.cell? ⟨b, j, none⟩ = some (.slice (B j) (zss.getD j []).length (C j)) := by rw [cell_of_row w b j cs _ _ hb]; exact hc j hj
  obtain ⟨ho, hl, hp⟩ := h2 j hj
  have hlen : ∀ zs' : List Int, zs'.length = (zss.getD j []).length → ∀ i, ((zss.set j zs').getD i []).length = (zss.getD i []).length := fun zs' hz i => by
    rw [set_getD _ _ _ _ (by omega)]
    by_cases ei : i = j
    · rw [if_pos ei, ei]; exact hz
    · rw [if_neg ei]
  by_cases hn0 : (zss.getD j []).length = 0
  · refine ⟨b, B j, C j, 0, 0, e, hcell, Own.empty rfl hn0, .inr rfl, fun w' zs' hz _ c => ?_⟩
    refine ⟨by simpa using h0, B, C, fun _ => ⟨b, cs, e, l1, l2, (c.block b (lt_of_block hb) (.inr (Nat.zero_le _))).trans hb, fun i hi => by rw [hlen zs' hz]; exact hc i hi, fun i hi hpos => hap i hi (by rwa [hlen zs' hz] at hpos)⟩, fun i hi => ?_, fun i k hik hk p1 p2 => h3 i k hik hk (by rwa [hlen zs' hz] at p1) (by rwa [hlen zs' hz] at p2)⟩
    obtain ⟨hoi, hli, hpi⟩ := h2 i hi
    refine ⟨?_, by rw [hlen zs' hz]; exact hli, hpi⟩
    by_cases ei : i = j
    · exact Own.empty rfl (by rw [hlen zs' hz, ei]; exact hn0)
    · rw [set_getD _ _ _ _ (by omega), if_neg ei]; exact hoi.still c
  · obtain ⟨bj, ej, m1, m2, hoj⟩ := ho.narrow (by omega)
    refine ⟨b, B j, C j, bj, bj + 1, e, hcell, hoj, .inl ⟨m1, by omega⟩, fun w' zs' hz hown c => ?_⟩
    have hbne : bj ≠ b := hap j hj (by omega) _ ej
    refine ⟨by simpa using h0, B, C, fun _ => ⟨b, cs, e, l1, l2, (c.block b (lt_of_block hb) (by omega)).trans hb, fun i hi => by rw [hlen zs' hz]; exact hc i hi, fun i hi hpos => hap i hi (by rwa [hlen zs' hz] at hpos)⟩, fun i hi => ?_, fun i k hik hk p1 p2 => h3 i k hik hk (by rwa [hlen zs' hz] at p1) (by rwa [hlen zs' hz] at p2)⟩
    obtain ⟨hoi, hli, hpi⟩ := h2 i hi
    refine ⟨?_, by rw [hlen zs' hz]; exact hli, hpi⟩
    by_cases ei : i = j
    · subst ei
      rw [set_getD _ _ _ _ (by omega), if_pos rfl, hz]
      exact hown.more m1 (by omega)
    · rw [set_getD _ _ _ _ (by omega), if_neg ei]
      by_cases hi0 : (zss.getD i []).length = 0
      · exact Own.empty rfl hi0
      · obtain ⟨bi, eb, n1, n2, hoi'⟩ := hoi.narrow (by omega)
        have hne : bi ≠ bj := by
          rcases Nat.lt_or_ge i j with hlt | hge
          · exact h3 i j hlt hj (by omega) (by omega) _ _ eb ej
          · exact fun e' => h3 j i (by omega) hi (by omega) (by omega) _ _ ej eb e'.symm
        exact (hoi'.chg c (by omega)).more n1 (by omega)
/-- The first k rows are marked. -/
def markedR (s : Nat) (zss : List (List Int)) : Nat → List (List Int)
  | 0 => zss
  | k + 1 => (markedR s zss k).set k (marks (s + cnt zss k) (zss.getD k []).length)
theorem markedR_length (s : Nat) (zss : List (List Int)) : ∀ k, (markedR s zss k).length = zss.length
  | 0 => rfl
  | k + 1 => by simp [markedR, markedR_length s zss k]
theorem markedR_getD (s : Nat) (zss : List (List Int)) : ∀ k i, k ≤ zss.length → (markedR s zss k).getD i [] = if i < k then marks (s + cnt zss i) (zss.getD i []).length else zss.getD i []
  | 0, i, _ => by simp [markedR]
  | k + 1, i, h => by
    rw [markedR, set_getD _ _ _ _ (by rw [markedR_length]; omega), markedR_getD s zss k i (by omega)]
    by_cases e : i = k
    · subst e; rw [if_pos rfl, if_pos (by omega)]
    · rw [if_neg e]
      by_cases e2 : i < k
      · rw [if_pos e2, if_pos (by omega)]
      · rw [if_neg e2, if_neg (by omega)]

theorem cnt_mono (zss : List (List Int)) : ∀ {a b : Nat}, a ≤ b → cnt zss a ≤ cnt zss b
  | a, 0, h => by obtain rfl : a = 0 := by omega
                  exact Nat.le_refl _
  | a, b + 1, h => by
    rcases Nat.lt_or_ge a (b + 1) with hlt | hge
    · have := cnt_mono zss (show a ≤ b by omega)
      simp only [cnt]; omega
    · obtain rfl : a = b + 1 := by omega
      exact Nat.le_refl _

set_option maxHeartbeats 800000 in
/-- laws.markInt64SS of rows that own their blocks -/
theorem markInt64SS (A : Option Addr) (n c s : Nat) (zss : List (List Int)) (lo hi : Nat) (w : World) (h : OwnR w lo hi A n zss) (hn : n ≤ 1048576) (hs : s + cnt zss n ≤ 1048576) :
    Calls Try.prog 58 #[.slice A n c, .int .i64 (s : Int)] w fun e w' => e = .returned (.int .i64 ((s + cnt zss n : Nat) : Int)) ∧ OwnR w' lo hi A n (markedR s zss n) ∧ Chg w w' lo hi ∧ w.heap.size = w'.heap.size := by
  have hl := Lib.hid h.1
  go_enter Try.func58, Try.ntmps58
  go_wp2
  go_loopw [1, 5] (fun m i wr => ∃ k : Nat, k ≤ n ∧ i = .int .i64 k ∧ m = .int .i64 ((s + cnt zss k : Nat) : Int) ∧ OwnR wr lo hi A n (markedR s zss k) ∧ Chg w wr lo hi ∧ Hid (w.heap.size = wr.heap.size)) (fun _ i _ => n - (intOf i).toNat)
  case atStart => exact ⟨0, Nat.zero_le _, rfl, rfl, h, Chg.refl _ _ _, rfl⟩
  case round =>
    obtain ⟨k, hk, rfl, rfl, ho, hch, hsz⟩ := hrel
    by_cases hlt : k < n
    · have hkl : (k : Int) < (n : Int) := by omega
      have eg : (markedR s zss k).getD k [] = zss.getD k [] := by rw [markedR_getD _ _ _ _ (by rw [hl.out]; omega), if_neg (by omega)]
      obtain ⟨b, B, C, l, g, rfl, hcell, hrow, hin, hback⟩ := ho.split hlt
      rw [eg] at hcell hrow hback
      have hc1 := cnt_mono zss (show k + 1 ≤ n by omega)
      have ec : cnt zss (k + 1) = cnt zss k + (zss.getD k []).length := rfl
      have HB : Hid (∀ w', Own w' l g B (zss.getD k []).length (marks (s + cnt zss k) (zss.getD k []).length) → Chg wr w' l g → OwnR w' lo hi (some ⟨b, 0, none⟩) n (markedR s zss (k + 1))) := fun w' o' c' => hback w' _ (marks_length _ _) o' c'
      have HI := Lib.hid hin
      have HE : Hid (s + cnt zss (k + 1) = s + cnt zss k + (zss.getD k []).length) := by show _ = _; omega
      have hsm : s + cnt zss k ≤ 1048576 := by omega
      have hln : (zss.getD k []).length ≤ 1048576 := by omega
      clear ho hback hin eg hc1 ec
      generalize zss.getD k [] = zs at hcell hrow HB hln HE
      go_wp2_with (go_at_call 49; refine (markInt64S B zs.length C (s + cnt zss k) zs l g _ hrow hln hsm).mono ?_; rintro e w1 ⟨rfl, o1, c1, z1⟩)
      have ho1 := HB.out w1 o1 c1
      have hch1 : Chg w w1 lo hi := by
        rcases HI.out with ⟨i1, i2⟩ | i3
        · exact hch.trans (c1.more i1 i2)
        · subst i3
          exact hch.trans ⟨c1.os, c1.tape, c1.output, c1.size, fun j hj _ => c1.block j hj (.inr (Nat.zero_le _))⟩
      have hsz1 : Hid (w.heap.size = w1.heap.size) := hsz.out.trans z1
      go_roundw
      case rel => exact ⟨k + 1, by omega, by go_num, by rw [HE.out]; simp, ho1, hch1, hsz1⟩
      case measure => simp [intOf]; omega
    · obtain rfl : k = n := by omega
      go_wp2
      go_ret
      exact ⟨rfl, ho, hch, hsz⟩

set_option maxHeartbeats 800000 in
/-- laws.heldInt64SS of rows that hold their marks -/
theorem heldInt64SS (A : Option Addr) (n c s : Nat) (zss : List (List Int)) (lo hi : Nat) (w : World) (hz : zss.length = n) (h : RdR w lo hi A n (markedR s zss n)) (hn : n ≤ 1048576) (hs : s + cnt zss n ≤ 1048576) :
    Calls Try.prog 59 #[.slice A n c, .int .i64 (s : Int)] w fun e w' => e = .returned (.int .i64 ((s + cnt zss n : Nat) : Int)) ∧ w = w' := by
  have hl := Lib.hid hz
  clear hz
  go_enter Try.func59, Try.ntmps59
  go_wp2
  go_loop [1, 5] (fun m i => ∃ k : Nat, k ≤ n ∧ i = .int .i64 k ∧ m = .int .i64 ((s + cnt zss k : Nat) : Int)) (fun _ i => n - (intOf i).toNat)
  case atStart => exact ⟨0, Nat.zero_le _, rfl, rfl⟩
  case round =>
    obtain ⟨k, hk, rfl, rfl⟩ := hrel
    by_cases hlt : k < n
    · have hkl : (k : Int) < (n : Int) := by omega
      obtain ⟨b, off, B, C, rfl, _, _, hcell, hrow, _, _⟩ := h.at_ hlt
      rw [markedR_getD _ _ _ _ (by rw [hl.out]; omega), if_pos hlt] at hcell hrow
      rw [marks_length] at hcell hrow
      have hc1 := cnt_mono zss (show k + 1 ≤ n by omega)
      have ec : cnt zss (k + 1) = cnt zss k + (zss.getD k []).length := rfl
      have HE : Hid (s + cnt zss (k + 1) = s + cnt zss k + (zss.getD k []).length) := by show _ = _; omega
      have hsm : s + cnt zss k ≤ 1048576 := by omega
      have hln : (zss.getD k []).length ≤ 1048576 := by omega
      clear hc1 ec
      generalize (zss.getD k []).length = L at hcell hrow hln HE
      go_wp2_with (go_at_call 50; refine (heldInt64S B L C (s + cnt zss k) lo hi _ hrow hln hsm).mono ?_; rintro e w1 ⟨rfl, rfl⟩)
      go_round
      case rel => exact ⟨k + 1, by omega, by go_num, by rw [HE.out]; simp⟩
      case measure => simp [intOf]; omega
    · obtain rfl : k = n := by omega
      go_wp2
      go_ret
      exact ⟨rfl, rfl⟩

/-- laws.markDeal -/
theorem markDeal (A : Option Addr) (n c s : Nat) (zss : List (List Int)) (lo hi : Nat) (w : World) (h : OwnR w lo hi A n zss) (hn : n ≤ 1048576) (hs : s + cnt zss n ≤ 1048576) :
    Calls Try.prog 52 #[.agg #[.slice A n c], .int .i64 (s : Int)] w fun e w' => e = .returned (.int .i64 ((s + cnt zss n : Nat) : Int)) ∧ OwnR w' lo hi A n (markedR s zss n) ∧ Chg w w' lo hi := by
  go_enter Try.func52, Try.ntmps52
  go_wp2_with fail
  refine (markInt64SS A n c s zss lo hi _ (h.still (Chg.of_alloc _ _ _ _)) hn hs).mono ?_
  rintro e w1 ⟨rfl, o1, c1, _⟩
  go_wp2_with fail
  go_ret
  exact ⟨rfl, o1, (Chg.of_alloc _ _ _ _).trans c1⟩


end

section
open Go.RowKit
set_option maxRecDepth 100000




end

section
open Go.RowKit
set_option maxRecDepth 100000

theorem step_of_wp {P : Program} {ops : Array Oper} {o : Oper} {a : Act} {w : World} {K : Act → World → Prop} {Q : Exit → Act → World → Prop} {E : Prop} (hg : o.guard = none) (h : o.wp P a w K Q) :
    if Region.wanted o (yielded ops a.tmps) = true then Oper.wp P o a w K Q else E := by
  have hw : Region.wanted o (yielded ops a.tmps) = true := by simp [Region.wanted, hg]
  rw [if_pos hw]; exact h

/-- 'append(out, xs...)' of numbers, in a region that draws. -/
theorem step_cat {w : World} {ops : Array Oper} {o : Oper} {a : Act} {K : Act → World → Prop} {Q : Exit → Act → World → Prop} {E : Prop} (hgd : o.guard = none) (s x : Operand)
    (ho : o.op = .call { callee := .builtin .append, args := #[s, x], argTypes := #[27, 27] })
    (base : Nat) (v : Value) (zs : List Int) (hs : a.eval s = v) (hown : OwnV w base v zs) (lo hi : Nat) (A : Option Addr) (m c : Nat) (ys : List Int)
    (hx : a.eval x = .slice A m c) (hnil : A = none → c = 0) (hr : Rd w lo hi A m ys) (hn : zs.length + m ≤ 1048576) (hbase : base ≤ w.heap.size)
    (h : ∀ v' w', OwnV w' base v' (zs ++ ys) → Below base w w' → K (a.put o.dst v') w') :
    if Region.wanted o (yielded ops a.tmps) = true then Oper.wp Try.prog o a w K Q else E := by
  apply step_of_wp hgd
  obtain ⟨i0, hi0, hz0, hz1, hz2⟩ := info_parts cells_info
  have hm := hr.1
  cases A with
  | none =>
    have h0 : m = 0 := by
      rcases Nat.eq_zero_or_pos m with e | e
      · exact e
      · obtain ⟨b, off, e', _⟩ := hr.2 e; cases e'
    subst h0
    have hy : ys = [] := List.eq_nil_of_length_eq_zero hm
    subst hy
    obtain rfl := hnil rfl
    have hrun := run_append_owned_none (P := Try.prog) (w := w) base 27 o.type 2 i0 1 Try.underlying27 hi0 v zs.length (zs.map (Value.int .i64)) hown
    unfold Oper.wp
    simp [execOp, ho, resolve, invoke, builtin, hs, hx, hrun, Result.andThen]
    exact h v w (by simpa using hown) (Below.refl _ _)
  | some ad =>
    refine wp_append_own _ s x 27 ho base 2 i0 (.int .i64 0) 1 8 Try.underlying27 hi0 hz0 hz1 hz2 rfl (by decide) v zs.length (zs.map (Value.int .i64)) hs hown
      ad m c (ys.map (Value.int .i64)) hx (by simpa using hm) ?_ ?_ ?_ ?_ hbase ?_
    · intro j u hj
      have hj' : j < ys.length := by
        rcases Nat.lt_or_ge j ys.length with e | e
        · exact e
        · rw [List.getElem?_eq_none (by simpa using e)] at hj; cases hj
      obtain ⟨b, off, e, _, _, hc⟩ := hr.2 (by omega)
      injection e with e
      subst e
      have hplain : (⟨b, off, none⟩ : Addr).add j = ⟨b, off + j, none⟩ := by unfold Addr.add; split <;> simp_all
      rw [hplain, hc j (by omega)]
      simp [List.getElem?_eq_getElem hj'] at hj
      rw [← hj]
      simp [List.getD, List.getElem?_eq_getElem hj']
    · intro u hu
      obtain ⟨q, _, rfl⟩ := List.mem_map.1 hu
      rfl
    · unfold maxLen; omega
    · omega
    · intro v' w' h1 h2 _
      refine h v' w' ?_ ((Below.refl _ _).grown h2 hbase hown.block)
      unfold OwnV
      rw [List.length_append, List.map_append, hm]
      exact h1

/-! ### Rows that grow -/
def rowV (B : Nat → Option Addr) (C : Nat → Nat) (zss : List (List Int)) : List Value := (List.range zss.length).map fun j => .slice (B j) (zss.getD j []).length (C j)
/-- A slice of slices of the call's own: it owns its block, each row owns its own, no two rows share one. -/
def OwnVR (w : World) (base : Nat) (v : Value) (zss : List (List Int)) : Prop := ∃ (B : Nat → Option Addr) (C : Nat → Nat),
  w.ownsRow base 27 1 v zss.length (rowV B C zss) ∧
  (∀ j, j < zss.length → Own w base w.heap.size (B j) (zss.getD j []).length (zss.getD j []) ∧ (zss.getD j []).length ≤ C j ∧ Plain (B j) (C j)) ∧
  ∀ i j, i < j → j < zss.length → 0 < (zss.getD i []).length → 0 < (zss.getD j []).length → ∀ x y, B i = some x → B j = some y → x.block ≠ y.block
theorem OwnVR.nil_ (w : World) (base : Nat) : OwnVR w base (.slice none 0 0) [] :=
  ⟨fun _ => none, fun _ => 0, ⟨by simp [rowV], .inl ⟨rfl, rfl⟩⟩, fun _ h => absurd h (by simp), fun _ _ _ h => absurd h (by simp)⟩
theorem row_kept {w w' : World} {base : Nat} {e : TypeId} {s : Nat} {v : Value} {n : Nat} {xs : List Value} (h : w.ownsRow base e s v n xs) (hb : ∀ k, base ≤ k → k < w.heap.size → w'.heap[k]? = w.heap[k]?) : w'.ownsRow base e s v n xs := by
  refine ⟨h.1, ?_⟩
  rcases h.2 with h0 | ⟨g, cap, cur, hv, hg, hh, r⟩
  · exact .inl h0
  · exact .inr ⟨g, cap, cur, hv, hg, (hb g hg (lt_of_block hh)).trans hh, r⟩
theorem Own.keptIn {w w' : World} {lo hi : Nat} {A : Option Addr} {n : Nat} {zs : List Int} (h : Own w lo hi A n zs) (hb : ∀ k, lo ≤ k → k < w.heap.size → w'.heap[k]? = w.heap[k]?) (hs : w.heap.size ≤ w'.heap.size) (hh : hi = w.heap.size) : Own w' lo w'.heap.size A n zs :=
  ⟨h.1, fun hn => by
    obtain ⟨b, cs, e, h1, h2, hb2, hc⟩ := h.2 hn
    exact ⟨b, cs, e, h1, by omega, (hb b h1 (lt_of_block hb2)).trans hb2, hc⟩⟩
/-- What is written lies below the rows, or is new. -/
theorem OwnVR.kept {w w' : World} {base : Nat} {v : Value} {zss : List (List Int)} (h : OwnVR w base v zss) (hb : ∀ k, base ≤ k → k < w.heap.size → w'.heap[k]? = w.heap[k]?) (hs : w.heap.size ≤ w'.heap.size) : OwnVR w' base v zss := by
  obtain ⟨B, C, h1, h2, h3⟩ := h
  exact ⟨B, C, row_kept h1 hb, fun j hj => ⟨(h2 j hj).1.keptIn hb hs rfl, (h2 j hj).2⟩, h3⟩
theorem OwnVR.block {w : World} {base : Nat} {v : Value} {zss : List (List Int)} (h : OwnVR w base v zss) : ∀ k, v.ownBlock = some k → base ≤ k := by
  obtain ⟨B, C, h1, _, _⟩ := h
  rcases h1.2 with ⟨rfl, _⟩ | ⟨g, cap, cur, rfl, hg, _⟩
  · intro k hk; simp [Value.ownBlock] at hk
  · intro k hk; simp [Value.ownBlock] at hk; omega
theorem getD_snoc (zss : List (List Int)) (ys : List Int) (j : Nat) : (zss ++ [ys]).getD j [] = if j < zss.length then zss.getD j [] else if j = zss.length then ys else [] := by
  simp only [List.getD_eq_getElem?_getD]
  by_cases h : j < zss.length
  · rw [List.getElem?_append_left h, if_pos h]
  · rw [if_neg h, List.getElem?_append_right (by omega)]
    by_cases e : j = zss.length
    · subst e; simp
    · rw [if_neg e, List.getElem?_eq_none (by simp; omega)]; rfl
theorem rowV_snoc (B : Nat → Option Addr) (C : Nat → Nat) (zss : List (List Int)) (ys : List Int) (D : Option Addr) (c : Nat) :
    rowV B C zss ++ [.slice D ys.length c] = rowV (fun j => if j < zss.length then B j else D) (fun j => if j < zss.length then C j else c) (zss ++ [ys]) := by
  unfold rowV
  rw [List.length_append, List.length_singleton, List.range_succ, List.map_append]
  congr 1
  · apply List.map_congr_left
    intro j hj
    have hj' : j < zss.length := by simpa using hj
    dsimp only
    rw [getD_snoc, if_pos hj', if_pos hj', if_pos hj']
  · simp
theorem rowsT_ne : (27 : TypeId) ≠ 2 := by decide

/-- 'append(out, row)', out rows of the call's own, the row younger than them. -/
theorem wp_pushR {w w1 : World} {o : Oper} {a : Act} {K : Act → World → Prop} {Q : Exit → Act → World → Prop} (s x : Operand)
    (ho : o.op = .call { callee := .builtin .append, args := #[s, x], argTypes := #[24, 24] })
    (base : Nat) (v : Value) (zss : List (List Int)) (hs : a.eval s = v) (h : OwnVR w base v zss) (hk : ∀ k, base ≤ k → k < w.heap.size → w1.heap[k]? = w.heap[k]?) (hz : w.heap.size ≤ w1.heap.size)
    (D : Option Addr) (c : Nat) (ys : List Int) (hr : Own w1 w.heap.size w1.heap.size D ys.length ys) (hc : ys.length ≤ c) (hp : Plain D c)
    (hx : a.eval x = .slice (some ⟨w1.heap.size, 0, none⟩) 1 1) (hn : zss.length ≤ 1048576) (hbase : base ≤ w.heap.size)
    (hK : ∀ v' w2, OwnVR w2 base v' (zss ++ [ys]) → Below base w1 w2 → K (a.put o.dst v') w2) :
    o.wp Try.prog a (w1.alloc (.cells #[.slice D ys.length c] 27)) K Q := by
  obtain ⟨i0, hi0, hz0, hz1, hz2⟩ := info_parts rows_info
  have h1 := h.kept hk hz
  obtain ⟨B, C, g1, g2, g3⟩ := h
  have g1' := row_kept g1 hk
  refine wp_append_own _ s x 24 ho base 27 i0 (.slice none 0 0) 1 24 Try.underlying24 hi0 hz0 hz1 hz2 rfl (by decide) v zss.length (rowV B C zss) hs (World.ownsRow.alloc g1' _)
    ⟨w1.heap.size, 0, none⟩ 1 1 [.slice D ys.length c] hx rfl ?_ ?_ ?_ ?_ ?_ ?_
  · intro j u hj
    match j, hj with
    | 0, hj => simp at hj; subst hj; simp [Addr.add]
  · intro u hu; simp at hu; subst hu; rfl
  · unfold maxLen; omega
  · omega
  · simp; omega
  · intro v' w2 k1 k2 _
    have hbl := h1.block
    have hb1 : Below base w1 (w1.alloc (.cells #[.slice D ys.length c] 27)) := (Below.refl _ _).alloc (by omega) _
    refine hK v' w2 ?_ (hb1.grown k2 (by simp; omega) hbl)
    -- a row's block isn't the slice's own: their cells are of other types
    have hfar : ∀ {lo : Nat} {A : Option Addr} {n : Nat} {zs : List Int}, Own w1 lo w1.heap.size A n zs → Own w2 lo w2.heap.size A n zs := by
      intro lo A n zs hO
      refine ⟨hO.1, fun hn0 => ?_⟩
      obtain ⟨b, cs, e, l1, l2, hb, hcs⟩ := hO.2 hn0
      have hne : v.ownBlock ≠ some b := by
        intro ev
        rcases g1'.2 with ⟨rfl, _⟩ | ⟨g, cap, cur, rfl, _, hh, _⟩
        · simp [Value.ownBlock] at ev
        · simp [Value.ownBlock] at ev
          subst ev
          rw [hb] at hh
          injection hh with hh
          injection hh with _ ht _
          exact rowsT_ne ht.symm
      have hsz := k2.size
      have hbk : w2.heap[b]? = w1.heap[b]? := (k2.block b (by simp; omega) (fun e => hne e.symm)).trans (Below.heap_alloc _ _ _ l2)
      exact ⟨b, cs, e, l1, by simp at hsz; omega, hbk.trans hb, hcs⟩
    refine ⟨fun j => if j < zss.length then B j else D, fun j => if j < zss.length then C j else c, ?_, fun j hj => ?_, fun i j hij hj hi hj0 p q hp1 hq1 => ?_⟩
    · rw [← rowV_snoc, List.length_append, List.length_singleton]; exact k1
    · rw [List.length_append, List.length_singleton] at hj
      dsimp only
      rw [getD_snoc]
      by_cases e : j < zss.length
      · rw [if_pos e, if_pos e, if_pos e]
        obtain ⟨q1, q2⟩ := g2 j e
        exact ⟨hfar (q1.keptIn hk hz rfl), q2⟩
      · have e' : j = zss.length := by omega
        rw [if_neg e, if_neg e, if_neg e, if_pos e']
        exact ⟨hfar (hr.more hbase (Nat.le_refl _)), hc, hp⟩
    · rw [List.length_append, List.length_singleton] at hj
      have ei : i < zss.length := by omega
      dsimp only at hp1 hq1
      rw [if_pos ei] at hp1
      rw [getD_snoc, if_pos ei] at hi
      by_cases e : j < zss.length
      · rw [if_pos e] at hq1
        rw [getD_snoc, if_pos e] at hj0
        exact g3 i j hij e hi hj0 p q hp1 hq1
      · rw [if_neg e] at hq1
        have e' : j = zss.length := by omega
        rw [getD_snoc, if_neg e, if_pos e'] at hj0
        obtain ⟨b, cs, eb, l1, l2, hb, _⟩ := (g2 i ei).1.2 hi
        obtain ⟨d, ds, ed, m1, m2, hd, _⟩ := hr.2 hj0
        rw [hp1] at eb
        rw [hq1] at ed
        injection eb with eb
        injection ed with ed
        rw [eb, ed]
        show b ≠ d
        omega
/-- The rows at rest. -/
theorem OwnVR.own {w : World} {base : Nat} {v : Value} {zss : List (List Int)} (h : OwnVR w base v zss) : ∃ A c, v = .slice A zss.length c ∧ zss.length ≤ c ∧ OwnR w base w.heap.size A zss.length zss := by
  obtain ⟨B, C, h1, h2, h3⟩ := h
  rcases h1.2 with ⟨rfl, h0⟩ | ⟨g, cap, cur, rfl, hg, hh, k1, k2, k3, ht⟩
  · have : zss = [] := List.eq_nil_of_length_eq_zero h0
    subst this
    exact ⟨none, 0, rfl, Nat.le_refl _, OwnR.none_⟩
  · refine ⟨_, cap, rfl, k1, rfl, B, C, fun hn => ⟨g, cur, rfl, hg, lt_of_block hh, hh, fun j hj => ?_, fun j hj hl x hx e => ?_⟩, h2, h3⟩
    · have e : (cur.toList.take (zss.length * 1))[j]? = (rowV B C zss)[j]? := by rw [ht]
      rw [Nat.mul_one, List.getElem?_take_of_lt hj] at e
      rw [← Array.getElem?_toList, e]
      simp [rowV, hj]
    · obtain ⟨b, cs, eb, _, _, hb, _⟩ := (h2 j hj).1.2 hl
      rw [hx] at eb
      injection eb with eb
      rw [eb] at e
      have e' : b = g := e
      subst e'
      rw [hb] at hh
      injection hh with hh
      injection hh with _ ht2 _
      exact rowsT_ne ht2.symm
end

end Go.Proofs.Yteglffbeldlibaa.Lib1
