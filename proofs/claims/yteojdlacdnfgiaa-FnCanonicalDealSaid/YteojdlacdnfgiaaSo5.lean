/- 'rows = append(rows, row)' by an equation of its run; the program's SuitOrders. -/
import Derived.Test.YteojdlacdnfgiaaOrdI5
namespace Go.Proofs.Yteojdlacdnfgiaa.Lib1
open Go.RowKit Go.Shelf
set_option maxRecDepth 100000
attribute [local go_sem] Oper.semAt_some

theorem run_pushVQ {w w1 : World} (base : Nat) {v : Value} {zss : List (List Int)} (h : OwnVQ w base v zss) (hk : ∀ k, base ≤ k → k < w.heap.size → w1.heap[k]? = w.heap[k]?) (hz : w.heap.size ≤ w1.heap.size)
    {u : Value} {ys : List Int} (hu : OwnV w1 w.heap.size u ys) (hn : zss.length ≤ 1048576) (hbase : base ≤ w.heap.size) :
    ∃ v' w2, (Builtin.append_ #[34, 34] 34 #[v, .slice (some ⟨w1.heap.size, 0, none⟩) 1 1]).run Try.prog (w1.alloc (.cells #[u] 24)) = .ok v' w2 ∧
      OwnVQ w2 base v' (zss ++ [ys]) ∧ Below base w1 w2 ∧ (∀ (k : Nat) (o : Obj), w1.heap[k]? = some o → (∀ cs fr, o ≠ .cells cs 24 fr) → w2.heap[k]? = some o) := by
  obtain ⟨i0, hi0, hz0, hz1, hz2⟩ := info_parts rows_info
  have hbl := h.block
  obtain ⟨vs, g1, g2, g3⟩ := h
  have hl : vs.length = zss.length := by have := g1.1; omega
  have g1' := row_kept g1 hk
  have hone := hu.one
  obtain ⟨v', w2, hr, k1, k2, _, _⟩ := run_append_own_at (P := Try.prog) (w1.alloc (.cells #[u] 24)) base 34 34 24 i0 (.slice none 0 0) 1 24 Try.underlying34 hi0 hz0 hz1 hz2 rfl (by decide) v zss.length vs (World.ownsRow.alloc g1' _)
    ⟨w1.heap.size, 0, none⟩ 1 1 [u] rfl (cell_one_new _ _ _) (by intro x hx; simp at hx; subst hx; exact hone) (by unfold maxLen; omega) (by omega) (by simp; omega)
  have hb1 : Below base w1 (w1.alloc (.cells #[u] 24)) := (Below.refl _ _).alloc (by omega) _
  have hkeep : ∀ {b' : Nat} {y : Value} {zs : List Int}, OwnV w1 b' y zs → OwnV w2 b' y zs := fun {b' y zs} hy => hy.keep fun k q => (k2.block k (by simp; have := (hy.blockT q).2.1; omega) (fun e => spine_ne g1' hy q e.symm)).trans (Below.heap_alloc _ _ _ (hy.blockT q).2.1)
  have hold : ∀ j, j < zss.length → OwnV w1 base (vs.getD j undef) (zss.getD j []) := fun j hj => (g2 j hj).keep fun k q => hk k ((g2 j hj).blockT q).1 ((g2 j hj).blockT q).2.1
  have hgd : ∀ j, (vs ++ [u]).getD j undef = if j < zss.length then vs.getD j undef else if j = zss.length then u else undef := fun j => by
    rw [← hl]
    simp only [List.getD_eq_getElem?_getD]
    by_cases q : j < vs.length
    · rw [List.getElem?_append_left q, if_pos q]
    · rw [if_neg q, List.getElem?_append_right (by omega)]
      by_cases e : j = vs.length
      · subst e; simp
      · rw [if_neg e, List.getElem?_eq_none (by simp; omega)]; rfl
  have hkk : ∀ (k : Nat) (o : Obj), w1.heap[k]? = some o → (∀ cs fr, o ≠ .cells cs 24 fr) → w2.heap[k]? = some o := fun k o hk' ho => by
    refine ((k2.block k (by simp; have := lt_of_block hk'; omega) (fun e => ?_)).trans (Below.heap_alloc _ _ _ (lt_of_block hk'))).trans hk'
    rcases g1'.2 with ⟨rfl, _⟩ | ⟨g, cap, cur, rfl, hg, hh, _⟩
    · simp [Value.ownBlock] at e
    · simp [Value.ownBlock] at e
      subst e
      rw [hk'] at hh
      cases hh
      exact ho _ _ rfl
  refine ⟨v', w2, hr, ⟨vs ++ [u], by rw [List.length_append]; exact k1, fun j hj => ?_, fun i j hij hj k hk1 => ?_⟩, hb1.grown k2 (by simp; omega) hbl, hkk⟩
  · rw [List.length_append, List.length_singleton] at hj
    rw [hgd, getD_snoc]
    by_cases e : j < zss.length
    · rw [if_pos e, if_pos e]; exact hkeep (hold j e)
    · have e' : j = zss.length := by omega
      rw [if_neg e, if_neg e, if_pos e', if_pos e']; exact hkeep (hu.more hbase)
  · rw [List.length_append, List.length_singleton] at hj
    rw [hgd] at hk1 ⊢
    rw [if_pos (by omega)] at hk1
    by_cases e : j < zss.length
    · rw [if_pos e]; exact g3 i j hij e k hk1
    · rw [if_neg e, if_pos (by omega)]
      intro q
      have := (hu.blockT q).1
      have := ((g2 i (by omega)).blockT hk1).2.1
      omega

theorem BoxAt.put {w : World} {g : Nat} {v : Value} {t : TypeId} (h : BoxAt w g v t) (u : Value) : BoxAt (w.setCell ⟨g, 0, none⟩ u) g u t := by
  unfold BoxAt at h ⊢
  simp [World.setCell, Array.getElem?_modify, h]
/-- Between two rounds of SuitOrders: the lists so far. -/
def SoI (w : World) (pre : List (List Int)) (W : World) : Prop := ∃ v, OwnVQ W w.heap.size v pre ∧ BoxAt W w.heap.size v 34 ∧ Below w.heap.size w W
theorem OwnVQ.cellsT {T : TypeId} (h1 : T ≠ 2) (h2 : T ≠ 24) {w w' : World} {base : Nat} {v : Value} {zss : List (List Int)} (h : OwnVQ w base v zss) (hk : ∀ (k : Nat) (cs : Array Value) (t : TypeId) (fr : Nat × Nat), t ≠ T → w.heap[k]? = some (.cells cs t fr) → w'.heap[k]? = some (.cells cs t fr)) : OwnVQ w' base v zss := by
  obtain ⟨vs, g1, g2, g3⟩ := h
  refine ⟨vs, ⟨g1.1, ?_⟩, fun j hj => (g2 j hj).keep fun k hk' => ?_, g3⟩
  · rcases g1.2 with h0 | ⟨g, cap, cur, hv, hg, hh, r⟩
    · exact .inl h0
    · exact .inr ⟨g, cap, cur, hv, hg, hk _ _ _ _ (Ne.symm h2) hh, r⟩
  · obtain ⟨_, _, cur, hc⟩ := (g2 j hj).blockT hk'
    rw [hc]; exact hk _ _ _ _ (Ne.symm h1) hc
theorem SoI.own {w : World} {B : Nat} (hB : w.heap.size ≤ B) : OwnFrom B (SoI w) := fun pre A C row h hg hr => by
  have hk := fun (k : Nat) (cs : Array Value) (t : TypeId) (fr : Nat × Nat) (q : A.heap[k]? = some (.cells cs t fr)) => cells_kept hg (fun r e => (hr r e).2) q
  obtain ⟨v, h1, h2, h5⟩ := h
  exact ⟨v, h1.cells hk, hk _ _ _ _ h2, h5.grown hg h5.size (fun k e => Nat.le_trans hB (hr k e).1)⟩
theorem SoI.stays {w : World} {B : Nat} (hB : w.heap.size ≤ B) : Stays 81 B (SoI w) := fun pre A C h k => by
  have hk := fun (i : Nat) (cs : Array Value) (t : TypeId) (fr : Nat × Nat) (ht : t ≠ 81) (q : A.heap[i]? = some (.cells cs t fr)) => k.block q (fun cs' fr' e => by cases e; exact ht rfl)
  obtain ⟨v, h1, h2, h5⟩ := h
  refine ⟨v, h1.cellsT (by decide) (by decide) hk, hk _ _ _ _ (by decide) h2, ⟨k.os.trans h5.os, k.tape.trans h5.tape, k.output.trans h5.output, Nat.le_trans h5.size k.size, fun i hi => ?_⟩⟩
  rw [← h5.block i hi]
  have hx : i < A.heap.size := Nat.lt_of_lt_of_le hi h5.size
  rw [Array.getElem?_eq_getElem hx]
  exact k.same i _ (Array.getElem?_eq_getElem hx) (.inl (by omega))
def SoAx (strain : Int) (g : Nat) (f : Value) (x : List Int) (a : Act) (W : World) : Prop :=
  ∃ b, OrdAt W b x ∧ a = { tmps := #[.int .i64 strain, undef, .slice none 0 0, .pointer (some ⟨g, 0, none⟩), .pointer (some ⟨b, 0, none⟩), .int .i64 strain, .bool true, .bool false, .int .i64 strain, f, .agg (ordA x), undef, undef, undef, undef, undef, undef], defers := [] }

set_option maxHeartbeats 2000000 in
theorem impl_SuitOrders (strain : Int) (w : World) : Calls Try.prog 27 #[.int .i64 strain] w (RetQ1 w (ordV strain)) := by
  cases hs : inB strain 0 4 with
  | false =>
    have hv : Hid (ordV strain = []) := by show _ = _; simp [ordV, hs]
    have HS := Lib.hid hs
    clear hs
    refine callsIn_wide.1 (callsIn_of_wp_marks (n := 3) Try.func27 rfl trivial (wpIn_wide.2 ?_) rfl)
    simp only [Try.ntmps27, List.size_toArray, List.length_cons, List.length_nil, Nat.reduceAdd, Nat.reduceSub, Array.replicate_succ, Array.replicate_zero, List.push_toArray, List.append_toArray, List.nil_append, List.cons_append]
    go_wp2_with fail
    refine (isStrain strain _).mono ?_
    rintro e w' ⟨rfl, rfl⟩
    rw [HS.out]
    go_wp2_with fail
    exact ⟨_, results_tmp rfl _ _ _, RetQ1.of_eq hv.out ⟨none, 0, rfl, Nat.le_refl _, OwnR.none_, Chg.refl _ _ _⟩⟩
  | true =>
    have hv : Hid (ordV strain = ordS strain) := by show _ = _; simp [ordV, hs]
    have HS := Lib.hid hs
    have HL := Lib.hid (show (ordS strain).length ≤ 256 from ordTo_len strain 256)
    clear hs
    refine callsIn_wide.1 (callsIn_of_wp_marks (n := 3) Try.func27 rfl trivial (wpIn_wide.2 ?_) rfl)
    simp only [Try.ntmps27, List.size_toArray, List.length_cons, List.length_nil, Nat.reduceAdd, Nat.reduceSub, Array.replicate_succ, Array.replicate_zero, List.push_toArray, List.append_toArray, List.nil_append, List.cons_append]
    go_wp2_with fail
    refine (isStrain strain _).mono ?_
    rintro e w' ⟨rfl, rfl⟩
    rw [HS.out]
    go_wp2_with fail
    refine (allowedOrders strain _).mono ?_
    rintro e w2 ⟨rfl, rfl⟩
    have B1 := Lib.hid ((BoxAt.new w (.slice none 0 0) 34 rfl).alloc (.cells #[.int .i64 strain] 2))
    have z1 : Hid ((w.alloc (.cells #[.slice none 0 0] 34)).heap.size = w.heap.size + 1) := by show _ = _; simp
    have C1 := Lib.hid (box_at (w.alloc (.cells #[.slice none 0 0] 34)) (.int .i64 strain) 2)
    have k1 := Lib.hid ((Chg.of_alloc w (.cells #[.slice none 0 0] 34) 0 0).trans (Chg.of_alloc _ (.cells #[.int .i64 strain] 2) 0 0))
    rw [z1.out] at C1 ⊢
    generalize (w.alloc (.cells #[.slice none 0 0] 34)).alloc (.cells #[.int .i64 strain] 2) = W0 at B1 C1 k1 ⊢
    clear z1
    have hg := Lib.hid (allowed_gives HS.out C1.out)
    have h0 : SoI w [] W0 := ⟨_, OwnVQ.nil_ _ _, B1.out, k1.out.to_below⟩
    have hzw := Lib.hid k1.out.size
    go_wp2_with fail
    refine (wpIn_wide (n := 3)).1 (wpIn_rangeAll rfl (enters_of Try.func100 (by kernel_rfl) rfl) (fun _ => rfl) hg.out (SoI w) (SoI.own hzw.out) (SoI.stays hzw.out) h0 (SoAx strain w.heap.size (.func (.func 100) #[] #[.pointer (some ⟨w.heap.size + 1, 0, none⟩)])) ?ax ?assign ?body ?done)
    case ax =>
      intro x a' _ A C row h hgr hr
      obtain ⟨b, hb, e⟩ := h
      exact ⟨b, cells_kept hgr (fun r e => (hr r e).2) hb, e⟩
    case assign =>
      rintro m l pre x W K ⟨r, hr⟩ hI hK
      have hx4 : x.length = 4 := (order_range (okO_order ((mem_ordS strain x).1 (by rw [hr]; simp)))).1
      have hal := Lib.hid (heap_alloc_new W (.cells (ordA [0, 0, 0, 0]) 81))
      have hz : Hid (ordA [0, 0, 0, 0] = #[.int .i64 0, .int .i64 0, .int .i64 0, .int .i64 0]) := rfl
      have ch := (Chg.of_alloc W (.cells (ordA [0, 0, 0, 0]) 81) 0 0).row5 (Nat.le_refl _) (ordA x)
      have hrow : OrdAt ((W.alloc (.cells (ordA [0, 0, 0, 0]) 81)).setRow W.heap.size (ordA x)) W.heap.size x := setRow_heap _ _ _ (ordA x) _ _ hal.out
      have HK := Lib.hid (fun a' h => hK a' _ (KeepsFrom.of_old ch.to_below) (KeepT.below ch.to_below) (SoI.stays (Nat.le_refl _) _ _ _ hI (Turns.of_old ch.to_below)) ⟨W.heap.size, hrow, h⟩)
      have HI := Lib.hid (ord_info hx4)
      have HCE := Lib.hid (ord_cells x)
      have hsz : Hid ((ordA [0, 0, 0, 0]).size = (ordA x).size) := by show _ = _; rw [ordA_size, ordA_size, hx4]; rfl
      clear ch hrow hK hI hr hx4
      dsimp only [ordE]
      rw [hz.out] at hal hsz HK
      generalize ordA x = R at HI HCE hsz HK ⊢
      gi_wp2_with (refine oper_round (fun c h => by cases h) (wp_store_row 81 _ _ rfl W.heap.size R rfl rfl 81 _ hal.out HI.out hsz.out HCE.out ?_))
      exact HK.out _ rfl
    case body =>
      rintro m l pre x a' W ⟨r, hr⟩ ⟨v, ho, hb, hB⟩ ⟨b, hO, rfl⟩
      have hx4 : x.length = 4 := (order_range (okO_order ((mem_ordS strain x).1 (by rw [hr]; simp)))).1
      have hlen : pre.length ≤ 1048576 := by
        have := HL.out
        rw [hr, List.length_append] at this
        omega
      clear hr
      obtain ⟨A, c, rfl, _, _⟩ := ho.form
      have hrd := hO.rd (n := 4) (by omega)
      rw [List.take_of_length_le (by omega)] at hrd
      have dr := Lib.hid (show Chg W W.drew 0 0 from Chg.drewN W 1 0 0)
      have hcl := Lib.hid (Clone64 (some ⟨b, 0, none⟩) 4 4 x 0 W.heap.size W.drew (hrd.still dr.out) (by omega) (fun e => by cases e))
      have p1 := (show BoxAt W.drew _ _ _ from hb).c
      refine wpIn_block ?_
      refine round_any (fun _ => True) (by kernel_rfl) (by kernel_rfl) trivial (fun hHeld => ?_)
      refine wpAnyH_take (i := 1) (v := .slice (some ⟨b, 0, none⟩) 4 4) rfl (by kernel_rfl) (by kernel_rfl) (by kernel_rfl) AtEnd.panic (.inl ⟨by rfl, fun V hV => by go_simp⟩) hHeld ?_
      refine wpAnyH_ready (rs := [0, 2]) (by kernel_rfl) (by simp) (AllReadyH.cons (i := 0) rfl (fun K' hK' => ?r0) (AllReadyH.cons (i := 2) rfl (fun K' hK' => ?r2) AllReadyH.nil))
      case' r0 =>
        go_simp
        refine hK'.out _ _ trivial (fun hHeld => ?_)
        clear hK'
        refine wpAnyH_ready (rs := [2]) (by kernel_rfl) (by simp) (AllReadyH.cons (i := 2) rfl (fun K' hK' => ?_) AllReadyH.nil)
        go_simp
        refine hcl.out.mono ?_
        rintro e w1 ⟨u, rfl, ou, b1⟩
        obtain ⟨A4, c4, rfl, _, _, _⟩ := ou.form
        have hb1 : BoxAt w1 w.heap.size (.slice A pre.length c) 34 := (b1.block _ (show w.heap.size < W.drew.heap.size from hb.lt)).trans hb
        have q1 := hb1.c
        have q3 : (w1.alloc (.cells #[.slice A4 4 c4] 24)).cell? ⟨w.heap.size, 0, none⟩ = some (.slice A pre.length c) := box_still q1 (Chg.of_alloc w1 _ 0 0)
        refine hK'.out _ _ trivial (fun hHeld => ?_)
        clear hK'
        refine wpAnyH_ready (rs := [3]) (by kernel_rfl) (by simp) (AllReadyH.cons (i := 3) rfl (fun K' hK' => ?_) AllReadyH.nil)
        go_simp
        refine hK'.out _ _ trivial (fun hHeld => ?_)
        clear hK'
      case' r2 =>
        go_simp
        refine hcl.out.mono ?_
        rintro e w1 ⟨u, rfl, ou, b1⟩
        obtain ⟨A4, c4, rfl, _, _, _⟩ := ou.form
        have hb1 : BoxAt w1 w.heap.size (.slice A pre.length c) 34 := (b1.block _ (show w.heap.size < W.drew.heap.size from hb.lt)).trans hb
        have q1 := hb1.c
        have q3 : (w1.alloc (.cells #[.slice A4 4 c4] 24)).cell? ⟨w.heap.size, 0, none⟩ = some (.slice A pre.length c) := box_still q1 (Chg.of_alloc w1 _ 0 0)
        refine hK'.out _ _ trivial (fun hHeld => ?_)
        clear hK'
        refine wpAnyH_ready (rs := [0, 3]) (by kernel_rfl) (by simp) (AllReadyH.cons (i := 0) rfl (fun K' hK' => ?s0) (AllReadyH.cons (i := 3) rfl (fun K' hK' => ?s3) AllReadyH.nil))
      case' s0 =>
        go_simp
        refine hK'.out _ _ trivial (fun hHeld => ?_)
        clear hK'
        refine wpAnyH_ready (rs := [3]) (by kernel_rfl) (by simp) (AllReadyH.cons (i := 3) rfl (fun K' hK' => ?_) AllReadyH.nil)
        go_simp
        refine hK'.out _ _ trivial (fun hHeld => ?_)
        clear hK'
      case' s3 =>
        go_simp
        refine hK'.out _ _ trivial (fun hHeld => ?_)
        clear hK'
        refine wpAnyH_ready (rs := [0]) (by kernel_rfl) (by simp) (AllReadyH.cons (i := 0) rfl (fun K' hK' => ?_) AllReadyH.nil)
        go_simp
        refine hK'.out _ _ trivial (fun hHeld => ?_)
        clear hK'
      all_goals
        obtain ⟨v', w2, hrun, o2, b2, k2⟩ := run_pushVQ (w := W.drew) w.heap.size (ho.still dr.out) (fun k _ h => b1.block k h) b1.size ou hlen (show w.heap.size ≤ W.heap.size from hB.size)
        have k2c : ∀ (k : Nat) (cs : Array Value) (t : TypeId) (fr : Nat × Nat), t ≠ 24 → w1.heap[k]? = some (.cells cs t fr) → w2.heap[k]? = some (.cells cs t fr) := fun k cs t fr ht hk => k2 k _ hk (fun cs' fr' e => by cases e; exact ht rfl)
        have hb2 : BoxAt w2 w.heap.size (.slice A pre.length c) 34 := k2c _ _ _ _ (by decide) hb1
        have hb5 := hb2.put v'
        have hst : ∀ (k : Nat) (o : Obj), k ≠ w.heap.size → w2.heap[k]? = some o → (w2.setCell ⟨w.heap.size, 0, none⟩ v').heap[k]? = some o := fun k o hne hk => (Below.heap_setCell _ _ _ _ hne).trans hk
        have old : ∀ (k : Nat) (o : Obj), k ≠ w.heap.size → (∀ cs fr, o ≠ .cells cs 24 fr) → W.heap[k]? = some o → (w2.setCell ⟨w.heap.size, 0, none⟩ v').heap[k]? = some o := fun k o hne ho hk => hst k o hne (k2 k o ((b1.block k (show k < W.drew.heap.size from lt_of_block hk)).trans hk) ho)
        have hsz : W.heap.size ≤ (w2.setCell ⟨w.heap.size, 0, none⟩ v').heap.size := by
          have h1 : W.heap.size ≤ w1.heap.size := b1.size
          have h2 := b2.size
          simp only [World.setCell, Array.size_modify]
          omega
        have o5 : OwnVQ (w2.setCell ⟨w.heap.size, 0, none⟩ v') w.heap.size v' (pre ++ [x]) := o2.cellsT (T := 34) (by decide) (by decide) fun k cs t fr ht hk => hst k _ (fun e => by
          subst e
          rw [show w2.heap[w.heap.size]? = _ from hb2] at hk
          cases hk
          exact ht rfl) hk
        have hfin : KeepsFrom W0.heap.size W (w2.setCell ⟨w.heap.size, 0, none⟩ v') ∧ KeepT 81 W (w2.setCell ⟨w.heap.size, 0, none⟩ v') ∧ SoI w (pre ++ [x]) (w2.setCell ⟨w.heap.size, 0, none⟩ v') := by
          refine ⟨⟨hsz, fun k o _ hk ho' => old k o (fun e => by subst e; rw [show W.heap[w.heap.size]? = _ from hb] at hk; cases hk; cases ho') (fun cs fr e => by subst e; cases ho') hk⟩,
            ⟨hsz, fun k cs fr hk => old k _ (fun e => by subst e; rw [show W.heap[w.heap.size]? = _ from hb] at hk; cases hk) (fun cs' fr' e => by cases e) hk⟩, v', o5, hb5, ?_⟩
          exact ((hB.trans ((Below.refl _ _).drew)).trans ((b1.mono (show w.heap.size ≤ W.drew.heap.size from hB.size)).trans b2)).setCell (Nat.le_refl _) v'
        have HF := Lib.hid hfin
        obtain ⟨A6, c6, rfl, _, _⟩ := o2.form
        clear hfin o5 hsz old hst hb5 o2 b2 k2 k2c ho hB hcl
        rw [List.length_append, List.length_singleton] at hrun HF
        rw [hx4] at hrun
        refine wpAnyH_ready (rs := [4]) (by kernel_rfl) (by simp) (AllReadyH.cons (i := 4) rfl (fun K' hK' => op_append rfl (.tmp 11) (.tmp 14) 34 rfl _ _ _ rfl rfl hrun ?_) AllReadyH.nil)
        refine hK'.out _ _ trivial (fun hHeld => ?_)
        clear hK'
        have q4 := hb2.c
        have q5 := hb2.f
        have q6 := (hb2.put (.slice A6 (pre.length + 1) c6)).c
        refine wpAnyH_ready (rs := [5]) (by kernel_rfl) (by simp) (AllReadyH.cons (i := 5) rfl (fun K' hK' => ?_) AllReadyH.nil)
        go_simp
        refine hK'.out _ _ trivial (fun hHeld => ?_)
        clear hK'
        refine wpAnyH_done (by kernel_rfl) ⟨rfl, ?_⟩ _
        exact HF.out
    case done =>
      rintro D W hD ⟨v, ho, hb, hB⟩ hK
      obtain ⟨A, c, rfl, _, _⟩ := ho.form
      have hp := hb.c
      have hk := fun (k : Nat) (cs : Array Value) (t : TypeId) (fr : Nat × Nat) (q : W.heap[k]? = some (.cells cs t fr)) => cells_kept (grownBy_putObj' W D (.deferred none)) (fun r e => by cases e; exact ⟨_, hK, rfl⟩) q
      have O := Lib.hid (ho.cells hk)
      have HB := Lib.hid (hB.trans (belowK_b (w := w) (Nat.le_refl _) W D _ (.deferred none) (by have := hzw.out; omega) hK rfl rfl))
      have HLN : Hid ((ordV strain).length = (ordS strain).length) := by show _ = _; rw [hv.out]
      clear ho hk hB
      go_wp2
      refine ⟨by simp, .inl ⟨_, _, rfl, run_takeDeferred hK, ?_⟩⟩
      obtain ⟨A7, c7, e7, hc7, own7⟩ := O.out.own
      injection e7 with e71 _ e73
      subst e71; subst e73
      exact ⟨_, results_tmp rfl _ _ _, RetQ1.of_eq hv.out ⟨_, c, rfl, hc7, own7.more (Nat.le_refl _) (Nat.le_refl _), Chg.of_below HB.out 0 0⟩⟩

end Go.Proofs.Yteojdlacdnfgiaa.Lib1
