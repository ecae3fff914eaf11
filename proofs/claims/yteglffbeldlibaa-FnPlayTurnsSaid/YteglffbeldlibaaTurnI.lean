/- Chapter 3: the library's Grow and Concat over rows; turnOnce. -/
import Derived.Test.YteglffbeldlibaaSetR5
import Derived.Deep.RegionLaw
namespace Go.Proofs.Yteglffbeldlibaa.Lib1
open Go.RowKit
set_option maxRecDepth 100000

/-- Rows by their values alone. -/
def OwnX (w : World) (base : Nat) (v : Value) (xs : List Value) : Prop := w.ownsRow base 27 1 v xs.length xs
theorem OwnX.block {w : World} {base : Nat} {v : Value} {xs : List Value} (h : OwnX w base v xs) : ∀ k, v.ownBlock = some k → base ≤ k := by
  rcases h.2 with ⟨rfl, _⟩ | ⟨g, cap, cur, rfl, hg, _⟩
  · intro k hk; simp [Value.ownBlock] at hk
  · intro k hk; simp [Value.ownBlock] at hk; omega
def RetX (w : World) (xs : List Value) (e : Ending) (w' : World) : Prop := ∃ v, e = .returned v ∧ OwnX w' w.heap.size v xs ∧ Below w.heap.size w w'
set_option maxHeartbeats 1000000 in
theorem GrowR (n : Nat) (w : World) (h0 : 0 < n) (hn : n ≤ 1048576) : Calls Try.prog 167 #[.slice none 0 0, .int .i64 (n : Int)] w (RetX w []) := by
  obtain ⟨i0, hi0, hz0, hz1, hz2⟩ := info_parts rows_info
  have hold : (Builtin.firstCells i0.size 0 (.slice none 0 0)).run Try.prog w.drew = .ok ([] : List Value).toArray w.drew := run_firstCells_none w.drew i0.size 0 0 0
  have hrz : ∀ ty, (Builtin.append_ #[24, 3] ty #[.slice none 0 0, .int .i64 (n : Int)]).run Try.prog w =
      .ok (.slice (some ⟨w.heap.size, 0, none⟩) n (grownCap w n 0 27)) (w.drew.alloc (.cells (([] : List Value).toArray ++ Builtin.zeroCells (Value.slice none 0 0).cells n ++ Builtin.zeroCells (Value.slice none 0 0).cells (grownCap w n 0 27 - n)) 27)) := fun ty => by
    have h := Lib.run_append_grow_zeros w 24 3 ty 27 i0 (.slice none 0 0) .i64 .i64 Try.underlying24 Try.underlying3 hi0 hz0 none 0 0 [] hold n h0 (by omega) (by omega) (by omega)
      (by rw [hz2]; omega) (by rw [hz2]; exact growslice_fits (by omega) (by omega))
    simpa using h
  have hG := grownCap_ge w n 0 27
  have hG63 := grownCap_le_maxLen w n 0 27 (by unfold maxLen; omega)
  have hsz : (([] : List Value).toArray ++ Builtin.zeroCells (Value.slice none 0 0).cells n ++ Builtin.zeroCells (Value.slice none 0 0).cells (grownCap w n 0 27 - n)).size = grownCap w n 0 27 := by
    have : (Value.slice none 0 0).cells.size = 1 := rfl
    simp [size_zeroCells, this]; omega
  generalize (([] : List Value).toArray ++ Builtin.zeroCells (Value.slice none 0 0).cells n ++ Builtin.zeroCells (Value.slice none 0 0).cells (grownCap w n 0 27 - n)) = C at hrz hsz
  generalize grownCap w n 0 27 = G at hrz hsz hG hG63
  have hp : (0 : Int) < (n : Int) := by omega
  have HS := Lib.hid hsz
  have hG63' : G ≤ 9223372036854775807 := by unfold maxLen at hG63; exact hG63
  clear hsz hold
  go_enter Try.func167, Try.ntmps167
  go_wp2_with (at_builtin; refine Lib.wpList_append_run _ rfl _ _ _ _ rfl _ _ rfl rfl _ _ (hrz _) ?_)
  all_goals
    go_ret
    refine ⟨_, rfl, ⟨by simp, .inr ⟨w.heap.size, G, C, rfl, Nat.le_refl _, ?_, Nat.zero_le _, hG63, by simpa using HS.out, by simp⟩⟩, ?_⟩
    · exact heap_alloc_new w _
    · exact ((Below.refl _ _).alloc (Nat.le_refl _) _).drew
/-- 'out = append(out, rows...)' -/
theorem wpList_catX {w : World} {ops : Array Oper} {rest : List Oper} {o : Oper} {a : Act} {Q : Exit → Act → World → Prop} (hgd : o.guard = none) (s x : Operand)
    (ho : o.op = .call { callee := .builtin .append, args := #[s, x], argTypes := #[24, 24] })
    (base : Nat) (v : Value) (xs : List Value) (hs : a.eval s = v) (hown : OwnX w base v xs) (b off m c : Nat) (ys : List Value)
    (hx : a.eval x = .slice (some ⟨b, off, none⟩) m c) (hl : ys.length = m) (hc : ∀ j u, ys[j]? = some u → w.cell? ⟨b, off + j, none⟩ = some u) (h1 : ∀ u ∈ ys, u.oneCell' = true) (hn : xs.length + m ≤ 1048576) (hbase : base ≤ w.heap.size)
    (h : ∀ v' w', OwnX w' base v' (xs ++ ys) → Below base w w' → wpList Try.prog ops Q rest (a.put o.dst v') w') : wpList Try.prog ops Q (o :: rest) a w := by
  obtain ⟨i0, hi0, hz0, hz1, hz2⟩ := info_parts rows_info
  refine wpList_append_own _ hgd s x 24 ho base 27 i0 (.slice none 0 0) 1 24 Try.underlying24 hi0 hz0 hz1 hz2 rfl (by decide) v xs.length xs hs hown
    ⟨b, off, none⟩ m c ys hx (by omega) ?_ h1 ?_ ?_ hbase ?_
  · intro j u hj
    have hplain : (⟨b, off, none⟩ : Addr).add j = ⟨b, off + j, none⟩ := by unfold Addr.add; split <;> simp_all
    rw [hplain]; exact hc j u hj
  · unfold maxLen; omega
  · omega
  · intro v' w' h2 h3 _
    refine h v' w' ?_ ((Below.refl _ _).grown h3 hbase hown.block)
    unfold OwnX
    rw [List.length_append, hl]
    exact h2
set_option maxHeartbeats 1600000 in
/-- slices.Concat of the last row and the first three. -/
theorem ConcatR (G b c1 c2 : Nat) (x0 x1 x2 x3 : Value) (w : World) (g0 : w.cell? ⟨G, 0, none⟩ = some (.slice (some ⟨b, 3, none⟩) 1 c1)) (g1 : w.cell? ⟨G, 1, none⟩ = some (.slice (some ⟨b, 0, none⟩) 3 c2))
    (k0 : w.cell? ⟨b, 0, none⟩ = some x0) (k1 : w.cell? ⟨b, 1, none⟩ = some x1) (k2 : w.cell? ⟨b, 2, none⟩ = some x2) (k3 : w.cell? ⟨b, 3, none⟩ = some x3)
    (o0 : x0.oneCell' = true) (o1 : x1.oneCell' = true) (o2 : x2.oneCell' = true) (o3 : x3.oneCell' = true) :
    Calls Try.prog 138 #[.slice (some ⟨G, 0, none⟩) 2 2] w (RetX w [x3, x0, x1, x2]) := by
  have hlt := lt_of_cell k0
  have hlG := lt_of_cell g0
  have K : Hid (∀ W, Below w.heap.size w W → W.cell? ⟨G, 0, none⟩ = some (.slice (some ⟨b, 3, none⟩) 1 c1) ∧ W.cell? ⟨G, 1, none⟩ = some (.slice (some ⟨b, 0, none⟩) 3 c2) ∧ (∀ j u, [x3][j]? = some u → W.cell? ⟨b, 3 + j, none⟩ = some u) ∧ (∀ j u, [x0, x1, x2][j]? = some u → W.cell? ⟨b, 0 + j, none⟩ = some u)) := by
    intro W hb
    refine ⟨cell_below g0 hb hlG, cell_below g1 hb hlG, fun j u hj => ?_, fun j u hj => ?_⟩
    · match j, hj with
      | 0, hj => simp at hj; subst hj; exact cell_below k3 hb hlt
    · match j, hj with
      | 0, hj => simp at hj; subst hj; exact cell_below k0 hb hlt
      | 1, hj => simp at hj; subst hj; exact cell_below k1 hb hlt
      | 2, hj => simp at hj; subst hj; exact cell_below k2 hb hlt
  clear k0 k1 k2 k3 hlt hlG
  go_enter Try.func138, Try.ntmps138
  go_wp2
  go_loop [3, 11] (fun s i => (i = .int .i64 0 ∧ s = .int .i64 0) ∨ (i = .int .i64 1 ∧ s = .int .i64 1) ∨ (i = .int .i64 2 ∧ s = .int .i64 4)) (fun _ i => 2 - (intOf i).toNat)
  case atStart => exact .inl ⟨rfl, rfl⟩
  case round =>
    rcases hrel with ⟨rfl, rfl⟩ | ⟨rfl, rfl⟩ | ⟨rfl, rfl⟩
    · go_wp2
      go_round
      case rel => exact .inr (.inl ⟨rfl, rfl⟩)
      case measure => simp [intOf]
    · go_wp2
      go_round
      case rel => exact .inr (.inr ⟨rfl, rfl⟩)
      case measure => simp [intOf]
    · clear g0 g1
      go_wp2_with fail
      refine (GrowR 4 _ (by omega) (by omega)).mono ?_
      rintro e w1 ⟨v1, rfl, ho1, hb1⟩
      go_wp2_with fail
      go_loopw [6, 27] (fun v i wr => (i = .int .i64 0 ∧ OwnX wr w.heap.size v [] ∧ Below w.heap.size w wr) ∨ (i = .int .i64 1 ∧ OwnX wr w.heap.size v [x3] ∧ Below w.heap.size w wr) ∨ (i = .int .i64 2 ∧ OwnX wr w.heap.size v [x3, x0, x1, x2] ∧ Below w.heap.size w wr)) (fun _ i _ => 2 - (intOf i).toNat)
      case atStart => exact .inl ⟨rfl, ho1, hb1⟩
      case round =>
        rcases hrel with ⟨rfl, ho, hb⟩ | ⟨rfl, ho, hb⟩ | ⟨rfl, ho, hb⟩
        · obtain ⟨q0, q1, q2, q3⟩ := K.out wr hb
          have hsize := hb.size
          have Q2 := Lib.hid q2
          clear q1 q2 q3
          go_wp2_with (at_builtin; refine wpList_catX rfl _ _ rfl w.heap.size _ _ rfl ho b 3 1 c1 [x3] rfl rfl Q2.out (by simp [o3]) (by simp) hsize ?_; intro v' w2 ho2 hb2)
          have hb3 := hb.trans hb2
          clear ho hb hb2
          go_roundw
          case rel => exact .inr (.inl ⟨rfl, ho2, hb3⟩)
          case measure => simp [intOf]
        · obtain ⟨q0, q1, q2, q3⟩ := K.out wr hb
          have hsize := hb.size
          have Q3 := Lib.hid q3
          clear q0 q2 q3
          go_wp2_with (at_builtin; refine wpList_catX rfl _ _ rfl w.heap.size _ _ rfl ho b 0 3 c2 [x0, x1, x2] rfl rfl Q3.out (by simp [o0, o1, o2]) (by simp) hsize ?_; intro v' w2 ho2 hb2)
          have hb3 := hb.trans hb2
          clear ho hb hb2
          go_roundw
          case rel => exact .inr (.inr ⟨rfl, ho2, hb3⟩)
          case measure => simp [intOf]
        · go_wp2
          go_ret
          exact ⟨_, rfl, ho, hb⟩

end Go.Proofs.Yteglffbeldlibaa.Lib1
