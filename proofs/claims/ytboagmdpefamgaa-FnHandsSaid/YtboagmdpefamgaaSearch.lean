/- Contracts of the library functions that the program's hands go through, at slices of int64: slices.BinarySearch, slices.Grow of nil, slices.Concat. -/
import Derived.Test.YtboagmdpefamgaaOwn
import Derived.Test.YtboagmdpefamgaaLaw
import Derived.WalkSpells
import Derived.Lib.AppendZerosOnto
import Derived.Laws.AppendOwnNone
namespace Go.Proofs.Ytboagmdpefamgaa.Lib1
open Go.RowKit

theorem cmp_isNaN (x : Int) (w : World) : Calls Try.prog 71 #[.int .i64 x] w fun e w' => e = .returned (.bool false) ∧ w = w' := by
  have h : (x != x) = false := by simp
  go_enter Try.func71, Try.ntmps71
  go_wp2
  go_ret
  exact ⟨rfl, rfl⟩
theorem slices_isNaN (x : Int) (w : World) : Calls Try.prog 68 #[.int .i64 x] w fun e w' => e = .returned (.bool false) ∧ w = w' := by
  have h : (x != x) = false := by simp
  go_enter Try.func68, Try.ntmps68
  go_wp2
  go_ret
  exact ⟨rfl, rfl⟩
theorem cmp_Less (x y : Int) (w : World) : Calls Try.prog 67 #[.int .i64 x, .int .i64 y] w fun e w' => e = .returned (.bool (decide (x < y))) ∧ w = w' := by
  go_enter Try.func67, Try.ntmps67
  go_wp2_with (go_at_call 71; refine (cmp_isNaN _ _).mono ?_; rintro e w' ⟨rfl, rfl⟩)
  go_ret
  exact ⟨rfl, rfl⟩

/-- The place of x in an increasing list. -/
structure Place (zs : List Int) (x : Int) (k : Nat) : Prop where
  le : k ≤ zs.length
  below : ∀ j, j < k → zs.getD j 0 < x
  above : ∀ j, k ≤ j → j < zs.length → x ≤ zs.getD j 0

def RetPlace (zs : List Int) (x : Int) (w : World) (e : Ending) (w' : World) : Prop :=
  ∃ k : Nat, Place zs x k ∧ e = .returned (.tuple #[.int .i64 k, .bool (decide (k < zs.length ∧ zs.getD k 0 = x))]) ∧ w = w'

set_option maxHeartbeats 1600000 in
theorem BinarySearch (A : Option Addr) (n c : Nat) (x : Int) (zs : List Int) (lo hi : Nat) (w : World) (h : Rd w lo hi A n zs) (hn : n ≤ 1048576)
    (hm : ∀ a b, a ≤ b → b < n → zs.getD a 0 ≤ zs.getD b 0) :
    Calls Try.prog 51 #[.slice A n c, .int .i64 x] w (RetPlace zs x w) := by
  have HL := Lib.hid h.1
  have HM := Lib.hid hm
  clear hm
  go_enter Try.func51, Try.ntmps51
  go_wp2
  go_loop [7, 8] (fun i j => ∃ a b : Nat, a ≤ b ∧ b ≤ n ∧ i = .int .i64 a ∧ j = .int .i64 b ∧ Hid (∀ t, t < a → zs.getD t 0 < x) ∧ Hid (∀ t, b ≤ t → t < n → x ≤ zs.getD t 0)) (fun i j => (intOf j).toNat - (intOf i).toNat)
  case atStart => exact ⟨0, n, Nat.zero_le _, Nat.le_refl _, rfl, rfl, fun t ht => by omega, fun t h1 h2 => by omega⟩
  case round =>
    obtain ⟨a, b, hab, hbn, rfl, rfl, h1, h2⟩ := hrel
    by_cases hlt : a < b
    · obtain ⟨bk, off, rfl, _, _, hc⟩ := h.2 (by omega)
      have hltI : (a : Int) < (b : Int) := by omega
      have hck := hc ((a + b) / 2) (by omega)
      have e1 : (a + b) / 2 < b := by omega
      have e2 : a ≤ (a + b) / 2 := by omega
      by_cases hz : zs.getD ((a + b) / 2) 0 < x
      · have h1' : Hid (∀ t, t < (a + b) / 2 + 1 → zs.getD t 0 < x) := fun t ht => Int.lt_of_le_of_lt (HM.out t ((a + b) / 2) (by omega) (by omega)) hz
        generalize zs.getD ((a + b) / 2) 0 = z at hck hz
        clear hc h1
        go_wp2_with (go_at_call 67; refine (cmp_Less _ _ _).mono ?_; rintro e w' ⟨rfl, rfl⟩)
        go_round
        case rel => exact ⟨(a + b) / 2 + 1, b, by omega, hbn, by go_num, rfl, h1', h2⟩
        case measure => simp [intOf]; omega
      · have h2' : Hid (∀ t, (a + b) / 2 ≤ t → t < n → x ≤ zs.getD t 0) := fun t h3 h4 => Int.le_trans (Int.not_lt.1 hz) (HM.out _ t h3 h4)
        generalize zs.getD ((a + b) / 2) 0 = z at hck hz
        clear hc h2
        go_wp2_with (go_at_call 67; refine (cmp_Less _ _ _).mono ?_; rintro e w' ⟨rfl, rfl⟩)
        go_round
        case rel => exact ⟨a, (a + b) / 2, by omega, by omega, rfl, by go_num, h1, h2'⟩
        case measure => simp [intOf]; omega
    · obtain rfl : a = b := by omega
      have hp : Hid (Place zs x a) := ⟨by rw [HL.out]; exact hbn, h1.out, fun j h3 h4 => h2.out j h3 (by rw [HL.out] at h4; exact h4)⟩
      by_cases han : a < n
      · obtain ⟨bk, off, rfl, _, _, hc⟩ := h.2 (by omega)
        have hck := hc a han
        have hanI : (a : Int) < (n : Int) := by omega
        by_cases he : zs.getD a 0 = x
        · have hf : Hid (decide (a < zs.length ∧ zs.getD a 0 = x) = true) := by show _ = true; rw [HL.out]; simp only [han, he, decide_true, and_self]
          have ht : (zs.getD a 0 == x) = true := by simpa using he
          generalize zs.getD a 0 = z at hck ht
          clear hc he h1 h2
          go_wp2_with (go_at_call 68; refine (slices_isNaN _ _).mono ?_; rintro e w' ⟨rfl, rfl⟩)
          go_ret2
          exact ⟨a, hp.out, by rw [hf.out]; rfl, rfl⟩
        · have hf : Hid (decide (a < zs.length ∧ zs.getD a 0 = x) = false) := by show _ = false; rw [decide_eq_false_iff_not]; exact fun h => he h.2
          have ht : (zs.getD a 0 == x) = false := by simpa using he
          generalize zs.getD a 0 = z at hck ht
          clear hc he h1 h2
          go_wp2_with (go_at_call 68; refine (slices_isNaN _ _).mono ?_; rintro e w' ⟨rfl, rfl⟩)
          go_ret2
          exact ⟨a, hp.out, by rw [hf.out]; rfl, rfl⟩
      · have hf : Hid (decide (a < zs.length ∧ zs.getD a 0 = x) = false) := by show _ = false; rw [decide_eq_false_iff_not, HL.out]; exact fun h => han h.1
        go_wp2
        go_ret2
        exact ⟨a, hp.out, by rw [hf.out]; rfl, rfl⟩

theorem Grow_none (w : World) : Calls Try.prog 69 #[.slice none 0 0, .int .i64 0] w (RetV w []) := by
  go_enter Try.func69, Try.ntmps69
  go_wp2
  go_ret
  exact ⟨_, rfl, OwnV.nil_ _ _, Below.refl _ _⟩

set_option maxHeartbeats 1000000 in
theorem Grow_some (n : Nat) (w : World) (h0 : 0 < n) (hn : n ≤ 1048576) : Calls Try.prog 69 #[.slice none 0 0, .int .i64 (n : Int)] w (RetV w []) := by
  obtain ⟨i0, hi0, hz0, hz1, hz2⟩ := info_parts cells_info
  have hold : (Builtin.firstCells i0.size 0 (.slice none 0 0)).run Try.prog w.drew = .ok ([] : List Value).toArray w.drew := run_firstCells_none w.drew i0.size 0 0 0
  have hrz : ∀ ty, (Builtin.append_ #[32, 3] ty #[.slice none 0 0, .int .i64 (n : Int)]).run Try.prog w =
      .ok (.slice (some ⟨w.heap.size, 0, none⟩) n (grownCap w n 0 2)) (w.drew.alloc (.cells (([] : List Value).toArray ++ Builtin.zeroCells (Value.int .i64 0).cells n ++ Builtin.zeroCells (Value.int .i64 0).cells (grownCap w n 0 2 - n)) 2)) := fun ty => by
    have h := Lib.run_append_grow_zeros w 32 3 ty 2 i0 (.int .i64 0) .i64 .i64 Try.underlying32 Try.underlying3 hi0 hz0 none 0 0 [] hold n h0 (by omega) (by omega) (by omega)
      (by rw [hz2]; omega) (by rw [hz2]; exact growslice_fits (by omega) (by omega))
    simpa using h
  have hG := grownCap_ge w n 0 2
  have hG63 := grownCap_le_maxLen w n 0 2 (by unfold maxLen; omega)
  have hsz : (([] : List Value).toArray ++ Builtin.zeroCells (Value.int .i64 0).cells n ++ Builtin.zeroCells (Value.int .i64 0).cells (grownCap w n 0 2 - n)).size = grownCap w n 0 2 := by
    have : (Value.int .i64 0).cells.size = 1 := rfl
    simp [size_zeroCells, this]; omega
  generalize (([] : List Value).toArray ++ Builtin.zeroCells (Value.int .i64 0).cells n ++ Builtin.zeroCells (Value.int .i64 0).cells (grownCap w n 0 2 - n)) = C at hrz hsz
  generalize grownCap w n 0 2 = G at hrz hsz hG hG63
  have hp : (0 : Int) < (n : Int) := by omega
  have HS := Lib.hid hsz
  have hG63' : G ≤ 9223372036854775807 := by unfold maxLen at hG63; exact hG63
  clear hsz hold
  go_enter Try.func69, Try.ntmps69
  go_wp2_with (at_builtin; refine Lib.wpList_append_run _ rfl _ _ _ _ rfl _ _ rfl rfl _ _ (hrz _) ?_)
  all_goals
    go_ret
    refine ⟨_, rfl, ⟨by simp, .inr ⟨w.heap.size, G, C, rfl, Nat.le_refl _, ?_, Nat.zero_le _, hG63, by simpa using HS.out, by simp⟩⟩, ?_⟩
    · exact heap_alloc_new w _
    · exact ((Below.refl _ _).alloc (Nat.le_refl _) _).drew

theorem Grow_nil (n : Nat) (w : World) (hn : n ≤ 1048576) : Calls Try.prog 69 #[.slice none 0 0, .int .i64 (n : Int)] w (RetV w []) := by
  rcases Nat.eq_zero_or_pos n with h | h
  · subst h; exact Grow_none w
  · exact Grow_some n w h hn

/-- 'out = append(out, xs...)', out the call's own, xs any slice that reads as ys. -/
theorem wpList_cat {w : World} {ops : Array Oper} {rest : List Oper} {o : Oper} {a : Act} {Q : Exit → Act → World → Prop} (hgd : o.guard = none) (s x : Operand)
    (ho : o.op = .call { callee := .builtin .append, args := #[s, x], argTypes := #[32, 32] })
    (base : Nat) (v : Value) (zs : List Int) (hs : a.eval s = v) (hown : OwnV w base v zs) (lo hi : Nat) (A : Option Addr) (m c : Nat) (ys : List Int)
    (hx : a.eval x = .slice A m c) (hnil : A = none → c = 0) (hr : Rd w lo hi A m ys) (hn : zs.length + m ≤ 1048576) (hbase : base ≤ w.heap.size)
    (h : ∀ v' w', OwnV w' base v' (zs ++ ys) → Below base w w' → wpList Try.prog ops Q rest (a.put o.dst v') w') : wpList Try.prog ops Q (o :: rest) a w := by
  obtain ⟨i0, hi0, hz0, hz1, hz2⟩ := info_parts cells_info
  have hm := hr.1
  cases A with
  | none =>
    have h0 : m = 0 := by
      rcases Nat.eq_zero_or_pos m with e | e
      · exact e
      · obtain ⟨b, off, e', _⟩ := hr.2 e; cases e'
    subst h0
    have hy : ys = [] := List.eq_nil_of_length_eq_zero hm
    subst hy
    obtain rfl := hnil rfl
    refine wpList_append_own_none hgd s x 32 ho base 2 i0 1 Try.underlying32 hi0 v zs.length (zs.map (Value.int .i64)) hs hown hx ?_
    exact h v w (by simpa using hown) (Below.refl _ _)
  | some ad =>
    refine wpList_append_own _ hgd s x 32 ho base 2 i0 (.int .i64 0) 1 8 Try.underlying32 hi0 hz0 hz1 hz2 rfl (by decide) v zs.length (zs.map (Value.int .i64)) hs hown
      ad m c (ys.map (Value.int .i64)) hx (by simpa using hm) ?_ ?_ ?_ ?_ hbase ?_
    · intro j u hj
      have hj' : j < ys.length := by
        rcases Nat.lt_or_ge j ys.length with e | e
        · exact e
        · rw [List.getElem?_eq_none (by simpa using e)] at hj; cases hj
      obtain ⟨b, off, e, _, _, hc⟩ := hr.2 (by omega)
      injection e with e
      subst e
      have hplain : (⟨b, off, none⟩ : Addr).add j = ⟨b, off + j, none⟩ := by unfold Addr.add; split <;> simp_all
      rw [hplain, hc j (by omega)]
      simp [List.getElem?_eq_getElem hj'] at hj
      rw [← hj]
      simp [List.getD, List.getElem?_eq_getElem hj']
    · intro u hu
      obtain ⟨q, _, rfl⟩ := List.mem_map.1 hu
      rfl
    · unfold maxLen; omega
    · omega
    · intro v' w' h1 h2 _
      refine h v' w' ?_ ((Below.refl _ _).grown h2 hbase hown.block)
      unfold OwnV
      rw [List.length_append, List.map_append, hm]
      exact h1

/-- The first k parts, one behind the other. -/
def catTo (pz : Nat → List Int) (k : Nat) : List Int := ((List.range k).map pz).flatten
theorem catTo_succ (pz : Nat → List Int) (k : Nat) : catTo pz (k + 1) = catTo pz k ++ pz k := by simp [catTo, List.range_succ]
theorem catTo_le (pz : Nat → List Int) : ∀ {k m : Nat}, k ≤ m → (catTo pz k).length ≤ (catTo pz m).length := by
  intro k m h
  induction h with
  | refl => exact Nat.le_refl _
  | step _ ih => rw [catTo_succ]; simp; omega

set_option maxHeartbeats 1600000 in
/-- slices.Concat of m parts that lie in the block g. -/
theorem Concat (g m c : Nat) (pa : Nat → Option Addr) (pn pc : Nat → Nat) (pz : Nat → List Int) (w : World)
    (hcell : ∀ j, j < m → w.cell? ⟨g, j, none⟩ = some (.slice (pa j) (pn j) (pc j))) (hrd : ∀ j, j < m → Rd w 0 w.heap.size (pa j) (pn j) (pz j)) (hpc : ∀ j, j < m → pa j = none → pc j = 0)
    (hm : m ≤ 1048576) (hn : (catTo pz m).length ≤ 1048576) :
    Calls Try.prog 52 #[.slice (some ⟨g, 0, none⟩) m c] w (RetS w (catTo pz m)) := by
  have HC := Lib.hid hcell
  have HR := Lib.hid hrd
  have HP := Lib.hid hpc
  clear hcell hrd hpc
  go_enter Try.func52, Try.ntmps52
  go_wp2
  go_loop [3, 11] (fun s i => ∃ k : Nat, k ≤ m ∧ i = .int .i64 k ∧ s = .int .i64 ((catTo pz k).length : Int)) (fun _ i => m - (intOf i).toNat)
  case atStart => exact ⟨0, Nat.zero_le _, rfl, rfl⟩
  case round =>
    obtain ⟨k, hk, rfl, rfl⟩ := hrel
    have hle := catTo_le pz hk
    by_cases hlt : k < m
    · have hck := HC.out k hlt
      have hlk : (k : Int) < (m : Int) := by omega
      have hsum : (catTo pz (k + 1)).length = (catTo pz k).length + pn k := by rw [catTo_succ, List.length_append, (HR.out k hlt).1]
      have hle2 := catTo_le pz (show k + 1 ≤ m from hlt)
      have HS := Lib.hid hsum
      have hb1 : (catTo pz k).length + pn k ≤ 1048576 := by omega
      clear hsum hle2
      generalize pa k = ak at hck
      generalize pc k = ck at hck
      generalize pn k = nk at hck HS hb1
      generalize (catTo pz k).length = lk at hle HS hb1
      go_wp2
      go_round
      case rel => exact ⟨k + 1, by omega, by go_num, by rw [HS.out]; go_num⟩
      case measure => simp [intOf]; omega
    · obtain rfl : k = m := by omega
      go_wp2_with (go_at_call 69; refine (Grow_nil _ _ hn).mono ?_; rintro e w1 ⟨v1, rfl, ho1, hb1⟩)
      go_loopw [6, 27] (fun v i wr => ∃ j : Nat, j ≤ k ∧ i = .int .i64 j ∧ OwnV wr w.heap.size v (catTo pz j) ∧ Below w.heap.size w wr) (fun _ i _ => k - (intOf i).toNat)
      case atStart => exact ⟨0, Nat.zero_le _, rfl, ho1, hb1⟩
      case round =>
        obtain ⟨j, hj, rfl, ho, hb⟩ := hrel
        by_cases hlt2 : j < k
        · have hck := HC.out j hlt2
          have hgl := lt_of_cell hck
          have hck2 : wr.cell? ⟨g, j, none⟩ = some (.slice (pa j) (pn j) (pc j)) := by rw [World.cell?_of_block (hb.block g hgl)]; exact hck
          have hlk : (j : Int) < (k : Int) := by omega
          have hr := (HR.out j hlt2).below hb (Nat.le_refl _)
          have hp := Lib.hid (HP.out j hlt2)
          have hsum := Lib.hid (catTo_succ pz j)
          have hln : (catTo pz j).length + pn j ≤ 1048576 := by
            have e1 := catTo_le pz (show j + 1 ≤ k from hlt2)
            rw [catTo_succ, List.length_append, (HR.out j hlt2).1] at e1
            omega
          have hsize := hb.size
          clear hck
          generalize pa j = ak at hck2 hr hp
          generalize pc j = ck at hck2 hp
          generalize pn j = nk at hck2 hr hln
          go_wp2_with (at_builtin; refine wpList_cat rfl _ _ rfl w.heap.size _ _ rfl ho 0 w.heap.size ak nk ck (pz j) rfl hp.out hr hln hsize ?_; intro v' w2 ho2 hb2)
          rw [← hsum.out] at ho2
          have hb3 := hb.trans hb2
          clear ho hb hb2 hr
          go_roundw
          case rel => exact ⟨j + 1, by omega, by go_num, ho2, hb3⟩
          case measure => simp [intOf]; omega
        · obtain rfl : j = k := by omega
          go_wp2
          go_ret
          exact RetS.of_own ho hb

end Go.Proofs.Ytboagmdpefamgaa.Lib1
