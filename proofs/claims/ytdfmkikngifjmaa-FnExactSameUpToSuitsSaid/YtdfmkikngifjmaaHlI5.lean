/- Chapter 5: the program's HolderLists. -/
import Derived.Test.YtdfmkikngifjmaaFold5
import Derived.Test.YtdfmkikngifjmaaGrows5
import Derived.Test.YtdfmkikngifjmaaMadeS5
import Derived.Test.YtdfmkikngifjmaaHold5g
namespace Go.Proofs.Ytdfmkikngifjmaa.Lib1
open Go.RowKit Go.Shelf
set_option maxRecDepth 100000
attribute [local go_sem] Oper.semAt_some

theorem OwnV.ne {w : World} {base g : Nat} {v : Value} {zs : List Int} {cs : Array Value} {t : TypeId} {fr : Nat × Nat} (h : OwnV w base v zs) (hg : w.heap[g]? = some (.cells cs t fr)) (ht : t ≠ 2) : v.ownBlock ≠ some g := fun e => by
  obtain ⟨_, _, cur, hc⟩ := h.blockT e
  rw [hg] at hc
  injection hc with hc
  injection hc with _ h2
  exact ht h2
/-- Between two rounds of HolderLists: the lists so far, and what the rounds read. -/
def HlI {m : Nat} (w : World) (g s : Nat) (R : Array Value) (pre : List (Fin m × Int)) (W : World) : Prop :=
  OwnVQ W s (.slice (some ⟨s, 0, none⟩) 4 4) (foldH pre) ∧ BoxAt W (s + 1) (.slice (some ⟨s, 0, none⟩) 4 4) 22 ∧ W.heap[g]? = some (.cells R 79 (0, 0)) ∧ BoxAt W (s + 1 + 1) (.slice (some ⟨g, 0, none⟩) 52 52) 40 ∧ Below w.heap.size w W
theorem HlI.own {m : Nat} {w : World} {g s B : Nat} {R : Array Value} (hB : w.heap.size ≤ B) : OwnFrom B (HlI (m := m) w g s R) := fun pre A C row h hg hr => by
  have hk := fun (k : Nat) (cs : Array Value) (t : TypeId) (fr : Nat × Nat) (q : A.heap[k]? = some (.cells cs t fr)) => cells_kept hg (fun r e => (hr r e).2) q
  obtain ⟨h1, h2, h3, h4, h5⟩ := h
  exact ⟨h1.cells hk, hk _ _ _ _ h2, hk _ _ _ _ h3, hk _ _ _ _ h4, h5.grown hg h5.size (fun k e => Nat.le_trans hB (hr k e).1)⟩

set_option maxHeartbeats 2000000 in
theorem impl_HolderLists (A : Option Addr) (n c : Nat) (zss : List (List Int)) (lo hi : Nat) (w : World) (h : RdR w lo hi A n zss) :
    Calls Try.prog 28 #[.agg #[.slice A n c]] w (RetQ1 w (hlV zss)) := by
  have ca := Lib.hid (Chg.of_alloc w (.cells #[.slice A n c] 25) 0 0)
  have D0 := Lib.hid (BoxAt.new w (.slice A n c) 25 rfl)
  have hb0 := D0.out.c
  cases hd : dealB zss with
  | false =>
    have hv : Hid (hlV zss = []) := by show _ = _; simp [hlV, hd]
    have HD := Lib.hid hd
    clear hd
    refine callsIn_wide.1 (callsIn_of_wp_marks (n := 3) Try.func28 rfl trivial (wpIn_wide.2 ?_) rfl)
    simp only [Try.ntmps28, List.size_toArray, List.length_cons, List.length_nil, Nat.reduceAdd, Nat.reduceSub, Array.replicate_succ, Array.replicate_zero, List.push_toArray, List.append_toArray, List.nil_append, List.cons_append]
    go_wp2_with fail
    refine (isDeal A n c zss lo hi _ (h.still ca.out)).mono ?_
    rintro e w1 ⟨rfl, c1⟩
    rw [HD.out]
    go_wp2_with fail
    exact ⟨_, results_tmp rfl _ _ _, RetQ1.of_eq hv.out ⟨none, 0, rfl, Nat.le_refl _, OwnR.none_, ca.out.trans c1⟩⟩
  | true =>
    have hv : Hid (hlV zss = listsTo (holderF zss) 4) := by show _ = _; simp [hlV, hd]
    have HC := Lib.hid (holder_cases zss)
    have HD := Lib.hid hd
    clear hd
    refine callsIn_wide.1 (callsIn_of_wp_marks (n := 3) Try.func28 rfl trivial (wpIn_wide.2 ?_) rfl)
    simp only [Try.ntmps28, List.size_toArray, List.length_cons, List.length_nil, Nat.reduceAdd, Nat.reduceSub, Array.replicate_succ, Array.replicate_zero, List.push_toArray, List.append_toArray, List.nil_append, List.cons_append]
    go_wp2_with fail
    refine (isDeal A n c zss lo hi _ (h.still ca.out)).mono ?_
    rintro e w1 ⟨rfl, c1⟩
    rw [HD.out]
    have E0 := Lib.hid (D0.out.still c1)
    have hb1 := E0.out.c
    go_wp2_with fail
    refine (holdersOf A n c zss lo hi _ (h.still (ca.out.trans c1)) HD.out).mono ?_
    rintro e w2 ⟨rfl, c2⟩
    have k2 := Lib.hid ((ca.out.trans c1).trans c2)
    generalize holderF zss = f at hv HC ⊢
    have hzs : Hid (zeros52.size = (holdA f).size) := by show _ = _; rw [holdA_size]; rfl
    have hal := Lib.hid (heap_alloc_new w2 (.cells zeros52 79))
    have k3 := Lib.hid ((Chg.of_alloc w2 (.cells zeros52 79) 0 0).row5 (Nat.le_refl _) (holdA f))
    have R3 := Lib.hid (setRow_heap _ _ _ (holdA f) _ _ hal.out)
    have z3 : Hid (((w2.alloc (.cells zeros52 79)).setRow w2.heap.size (holdA f)).heap.size = w2.heap.size + 1) := by show _ = _; rw [setRow_size]; simp
    have HI := Lib.hid (hold_info f)
    have HCE := Lib.hid (hold_cells f)
    generalize hR : holdA f = R at hzs k3 R3 z3 HI HCE ⊢
    have HR := Lib.hid hR
    clear hR hb1 hb0
    obtain ⟨zs, hzs5⟩ : ∃ zs, zs = hold52 f := ⟨_, rfl⟩
    have HL : zs.length = 52 := by rw [hzs5, hold52_length]
    have hlists := Lib.hid (fold_lists f HC.out)
    rw [← hzs5, ← hv.out] at hlists
    have HZ : Hid (∀ j, j < 52 → zs.getD j 0 = f (j : Int)) := fun j hj => by rw [hzs5]; exact hold52_at f hj
    clear hzs5
    obtain ⟨w3, hw3⟩ : ∃ w3, w3 = (w2.alloc (.cells zeros52 79)).setRow w2.heap.size R := ⟨_, rfl⟩
    rw [← hw3] at k3 R3 z3
    have HW3 := Lib.hid hw3
    clear hw3
    have hmk := make4 w3
    go_wp2_with (first | (refine wpList_store_row rfl 79 (.tmp 3) (.tmp 12) rfl w2.heap.size R rfl rfl 79 zeros52 hal.out HI.out hzs.out HCE.out ?_; change wpList _ _ _ _ _ ((w2.alloc (.cells zeros52 79)).setRow w2.heap.size R); rw [← HW3.out]) | (refine (callsIn_wide.1 (Backward64 3 _ _ _ _)).mono ?_; rintro e w' ⟨rfl, rfl⟩))
    have q0 : Hid ((w3.alloc (.cells nil4 40)).heap.size = w3.heap.size + 1) := by show _ = _; simp
    have q1 : Hid (((w3.alloc (.cells nil4 40)).alloc (.cells #[.slice (some ⟨w3.heap.size, 0, none⟩) 4 4] 22)).heap.size = w3.heap.size + 1 + 1) := by show _ = _; simp
    have B1 := Lib.hid ((BoxAt.new (w3.alloc (.cells nil4 40)) (.slice (some ⟨w3.heap.size, 0, none⟩) 4 4) 22 q0.out).alloc (.cells #[.slice (some ⟨w2.heap.size, 0, none⟩) 52 52] 40))
    have B2 := Lib.hid (BoxAt.new ((w3.alloc (.cells nil4 40)).alloc (.cells #[.slice (some ⟨w3.heap.size, 0, none⟩) 4 4] 22)) (.slice (some ⟨w2.heap.size, 0, none⟩) 52 52) 40 q1.out)
    have cA := Lib.hid (((Chg.of_alloc w3 (.cells nil4 40) 0 0).trans (Chg.of_alloc _ (.cells #[.slice (some ⟨w3.heap.size, 0, none⟩) 4 4] 22) 0 0)).trans (Chg.of_alloc _ (.cells #[.slice (some ⟨w2.heap.size, 0, none⟩) 52 52] 40) 0 0))
    have O0 := Lib.hid (((OwnVQ.nil4 w3 (Nat.le_refl _)).still (Chg.of_alloc _ (.cells #[.slice (some ⟨w3.heap.size, 0, none⟩) 4 4] 22) 0 0)).still (Chg.of_alloc _ (.cells #[.slice (some ⟨w2.heap.size, 0, none⟩) 52 52] 40) 0 0))
    have zA : Hid ((((w3.alloc (.cells nil4 40)).alloc (.cells #[.slice (some ⟨w3.heap.size, 0, none⟩) 4 4] 22)).alloc (.cells #[.slice (some ⟨w2.heap.size, 0, none⟩) 52 52] 40)).heap.size = w3.heap.size + 3) := by show _ = _; simp
    generalize ((w3.alloc (.cells nil4 40)).alloc (.cells #[.slice (some ⟨w3.heap.size, 0, none⟩) 4 4] 22)).alloc (.cells #[.slice (some ⟨w2.heap.size, 0, none⟩) 52 52] 40) = W0 at B1 B2 cA O0 zA ⊢
    have RA := Lib.hid ((cA.out.block _ (by have := z3.out; omega) (.inr (Nat.zero_le _))).trans R3.out)
    have kA := Lib.hid ((k2.out.trans k3.out).trans cA.out)
    have zw := Lib.hid k2.out.size
    have hI0 : HlI (m := zs.length) w w2.heap.size w3.heap.size R [] W0 := ⟨O0.out, B1.out, RA.out, B2.out, kA.out.to_below⟩
    have hcells : ∀ j, j < zs.length → W0.cell? ⟨w2.heap.size, 0 + j, none⟩ = some (.int .i64 (zs.getD j 0)) := fun j hj => by
      rw [cell_of_row _ _ _ _ _ _ RA.out, ← HR.out, Nat.zero_add, holdA_at f j (by omega), HZ.out j (by omega)]
    have hbox : W0.cell? ⟨w3.heap.size + 1 + 1, 0, none⟩ = some (.slice (some ⟨w2.heap.size, 0, none⟩) zs.length 52) := by rw [HL]; exact B2.out.c
    have hN52 := HL
    clear hmk q0 q1 B1 B2 O0 cA
    refine wpIn_wide.1 (wpIn_rangeFunc_ownG (F := Fence.wide) (n := 3) rfl (by omega) (gf := 111) (lb := #[.pointer (some ⟨w3.heap.size + 1 + 1, 0, none⟩)]) rfl trivial (enters_of Try.func111 (by kernel_rfl) rfl)
      (backward_stops 2 (w3.heap.size + 1 + 1) w2.heap.size 0 52 zs (by omega) W0 (by have := zA.out; omega) (by have := zA.out; have := z3.out; omega) hbox hcells) KpB.trans (KpB.put (by have := zA.out; have := z3.out; omega) (by have := zA.out; omega)) (Below.refl _ _) (fun _ => rfl)
      (HlI w w2.heap.size w3.heap.size R) (fun _ _ _ => False) (HlI.own kA.out.size) (fun _ _ _ _ _ hs _ _ => hs) hI0
      (fun x => { tmps := #[.agg #[.slice A n c], .pointer (some ⟨w.heap.size, 0, none⟩), .slice none 0 0, .pointer (some ⟨w2.heap.size, 0, none⟩), .pointer (some ⟨w3.heap.size + 1, 0, none⟩), .int .i64 (x.1.val : Int), .int .i64 x.2, undef, .agg #[.slice A n c], .bool true, .bool false, .agg #[.slice A n c], .agg R, .slice (some ⟨w3.heap.size, 0, none⟩) 4 4, .slice (some ⟨w2.heap.size, 0, none⟩) 52 52, .func (.func 111) #[] #[.pointer (some ⟨w3.heap.size + 1 + 1, 0, none⟩)], .int .i64 (x.1.val : Int), .int .i64 x.2, undef, undef, undef, undef, undef, undef, undef, undef, undef, undef, undef, undef, undef, undef, undef], defers := [] }) ?assign ?body ?done ?stop)
    case assign =>
      intro l x W K hK
      dsimp only [bwE]
      gi_wp2
      exact hK
    case body =>
      rintro l pre x W hI hlen
      obtain ⟨ho, hb1, hR, hb2, hB⟩ := hI
      have hF := Lib.hid (foldH_snoc pre x)
      have hx52 : x.1.val < 52 := by have := x.1.isLt; omega
      have HLN := Lib.hid (fun j => foldH_len (Nat.le_of_eq HL) pre j)
      have HLE := Lib.hid (foldH_length pre)
      dsimp only
      obtain ⟨k, s⟩ := x
      obtain ⟨k, hk⟩ := k
      dsimp only at hF hx52 ⊢
      by_cases hsn : s = -1
      · have e : Hid (foldH (pre ++ [((⟨k, hk⟩ : Fin zs.length), s)]) = foldH pre) := by show _ = _; rw [hF.out, stepH, if_pos hsn]
        clear hF
        subst hsn
        gi_wp2
        exact ⟨KeepsFrom.refl _ _, KpB.refl _ _ _, by rw [e.out]; exact ho, hb1, hR, hb2, hB⟩
      · have e : Hid (foldH (pre ++ [((⟨k, hk⟩ : Fin zs.length), s)]) = (foldH pre).set (k / 13) ((foldH pre).getD (k / 13) [] ++ [s])) := by show _ = _; rw [hF.out, stepH, if_neg hsn]
        have hne : (s == -1) = false := by simpa using hsn
        have hne2 : (s != -1) = true := by simpa using hsn
        have hrl0 : ((foldH pre).getD (k / 13) []).length ≤ 1048576 := by have := HLN.out (k / 13); omega
        clear hF hlen
        gi_wp2_with (refine ⟨trivial, ?_⟩; gi_at_call 75; refine (CallsIn.inRound l (callsIn_wide.2 (suit (k : Int) _ (by omega) (by omega)))).mono ?_; rintro e w' ⟨rfl, rfl⟩)
        have hq4 : k / 13 < 4 := by omega
        have hku : (k : Int) / 13 = ((k / 13 : Nat) : Int) := by omega
        rw [hku]
        clear hku
        generalize hq : k / 13 = q at e hq4 hrl0 ⊢
        have hql : (q : Int) < 4 := by omega
        have dr := Lib.hid (show Chg W W.drew 0 0 from Chg.drewN W 1 0 0)
        obtain ⟨g, cap, u, hv', hg1, hg2, hcell, hfr, hou, hback⟩ := (ho.still dr.out).grow (j := q) (by rw [HLE.out]; exact hq4)
        rw [HLE.out] at hv'
        injection hv' with hv1 _ hv3
        injection hv1 with hv1
        injection hv1 with hv1 _ _
        subst hv1
        subst hv3
        obtain ⟨v', w4, hrun, o4, b4, k4, n4⟩ := run_pushQ w3.heap.size hou s hrl0 (by have := hg2; omega)
        obtain ⟨s1, s2, s3⟩ := hback w4 v' _ o4 k4 n4
        obtain ⟨row, hrow⟩ : ∃ row, (foldH pre).getD q [] = row := ⟨_, rfl⟩
        rw [hrow] at hou hrl0 o4 e s3
        have hlen4 : (row ++ [s]).length = row.length + 1 := by simp
        obtain ⟨A4, c4, rfl, _, _, _⟩ := o4.form
        obtain ⟨A5, c5, rfl, _, _, _⟩ := hou.form
        have p1 := (show BoxAt W.drew _ _ _ from hb1).c
        have pA : (W.alloc (.cells #[.int .i64 s] 2)).drew.cell? ⟨w3.heap.size + 1, 0, none⟩ = some (.slice (some ⟨w3.heap.size, 0, none⟩) 4 4) := (show BoxAt (W.alloc (.cells #[.int .i64 s] 2)).drew _ _ _ from hb1.alloc _).c
        have hrunA : (Builtin.append_ #[40, 40] 40 #[.slice A5 row.length c5, .slice (some ⟨W.heap.size, 0, none⟩) 1 1]).run Try.prog (W.alloc (.cells #[.int .i64 s] 2)).drew = .ok (.slice A4 (row.length + 1) c4) w4 := by rw [← hlen4]; exact hrun
        have hb4 : BoxAt w4 (w3.heap.size + 1) (.slice (some ⟨w3.heap.size, 0, none⟩) 4 4) 22 := (k4 _ hb1.lt (hou.ne (show W.drew.heap[_]? = _ from hb1) (by decide))).trans hb1
        have p4 := hb4.c
        have p5 := (hb4.set (g := w3.heap.size) (i := q) (u := .slice A4 (row.length + 1) c4) (by omega)).c
        have k5 : ∀ (g : Nat) (cs : Array Value) (t : TypeId) (fr : Nat × Nat), W.heap[g]? = some (.cells cs t fr) → t ≠ 2 → g ≠ w3.heap.size → (w4.setCell ⟨w3.heap.size, q, none⟩ (.slice A4 (row.length + 1) c4)).heap[g]? = some (.cells cs t fr) := fun g cs t fr hg ht hne =>
          (Below.heap_setCell _ _ _ _ hne).trans ((k4 g (lt_of_block hg) (hou.ne (show W.drew.heap[g]? = _ from hg) ht)).trans hg)
        have kf : KeepsFrom W0.heap.size W (w4.setCell ⟨w3.heap.size, q, none⟩ (.slice A4 (row.length + 1) c4)) := by
          refine ⟨by have := b4.size; simpa [World.setCell] using this, fun g o hg hk ho' => ?_⟩
          refine (Below.heap_setCell _ _ _ _ (by have := zA.out; show g ≠ w3.heap.size; omega)).trans ((k4 g (lt_of_block hk) (fun e' => ?_)).trans hk)
          obtain ⟨_, _, cur, hc⟩ := hou.blockT e'
          rw [show W.drew.heap[g]? = some o from hk] at hc
          cases hc
          cases ho'
        have t24 : (22 : TypeId) ≠ 2 := by decide
        have t36 : (40 : TypeId) ≠ 2 := by decide
        have t67 : (79 : TypeId) ≠ 2 := by decide
        have hR' := k5 _ _ _ _ hR t67 (by have := z3.out; omega)
        have hb2' := k5 _ _ _ _ hb2 t36 (by omega)
        have hb1' := k5 _ _ _ _ hb1 t24 (by omega)
        have hzw : w.heap.size ≤ w3.heap.size := by have := zw.out; have := z3.out; omega
        have hBf : Below w.heap.size w (w4.setCell ⟨w3.heap.size, q, none⟩ (.slice A4 (row.length + 1) c4)) := Below.setAt (hB.trans (((Below.refl _ _).drew).trans (b4.mono hzw))) hzw
        rw [hlen4, ← e.out] at s3
        have hfin := Lib.hid (show KeepsFrom W0.heap.size W _ ∧ KpB w2.heap.size (w3.heap.size + 1 + 1) W _ ∧ HlI w w2.heap.size w3.heap.size R (pre ++ [((⟨k, hk⟩ : Fin zs.length), s)]) (w4.setCell ⟨w3.heap.size, q, none⟩ (.slice A4 (row.length + 1) c4)) from ⟨kf, ⟨hR'.trans hR.symm, hb2'.trans hb2.symm⟩, s3, hb1', hR', hb2', hBf⟩)
        clear kf k5 t24 t36 t67 hR' hb2' hb1' hBf s3
        have hcellA : (W.alloc (.cells #[.int .i64 s] 2)).drew.cell? ⟨w3.heap.size, q, none⟩ = some (.slice A5 row.length c5) := box_still hcell (Chg.of_alloc W.drew (.cells #[.int .i64 s] 2) 0 0)
        refine round_any (fun V => V.cell? ⟨w3.heap.size + 1, 0, none⟩ = some (.slice (some ⟨w3.heap.size, 0, none⟩) 4 4)) (by kernel_rfl) (by kernel_rfl) p1 (fun hHeld => ?_)
        refine wpAnyH_take (i := 0) (v := .slice (some ⟨w3.heap.size, 0, none⟩) 4 4) rfl (by kernel_rfl) (by kernel_rfl) (by kernel_rfl) AtEnd.panic (.inl ⟨by rfl, fun V hV => by go_simp⟩) hHeld ?_
        refine wpAnyH_take (i := 1) (v := .int .i64 (q : Int)) rfl (by kernel_rfl) (by kernel_rfl) (by kernel_rfl) AtEnd.panic (.inl ⟨by rfl, fun V hV => by go_simp⟩) hHeld ?_
        refine wpAnyH_take (i := 2) (v := .slice (some ⟨w3.heap.size, 0, none⟩) 4 4) rfl (by kernel_rfl) (by kernel_rfl) (by kernel_rfl) AtEnd.panic (.inl ⟨by rfl, fun V hV => by go_simp⟩) hHeld ?_
        refine wpAnyH_take (i := 3) (v := .int .i64 (q : Int)) rfl (by kernel_rfl) (by kernel_rfl) (by kernel_rfl) AtEnd.panic (.inl ⟨by rfl, fun V hV => by go_simp⟩) hHeld ?_
        refine wpAnyH_take (i := 4) (v := .pointer (some ⟨w3.heap.size, q, none⟩)) rfl (by kernel_rfl) (by kernel_rfl) (by kernel_rfl) AtEnd.panic (.inl ⟨by rfl, fun V hV => by go_simp⟩) hHeld ?_
        refine wpAnyH_take (i := 6) (v := .int .i64 s) rfl (by kernel_rfl) (by kernel_rfl) (by kernel_rfl) AtEnd.panic (.inl ⟨by rfl, fun V hV => by go_simp⟩) hHeld ?_
        refine wpAnyH_ready (rs := [5, 7]) (by kernel_rfl) (by simp) (AllReadyH.cons (i := 5) rfl (fun K' hK' => ?r5) (AllReadyH.cons (i := 7) rfl (fun K' hK' => ?r7) AllReadyH.nil))
        case r5 =>
          go_simp
          refine hK'.out _ _ hHeld (fun hHeld => ?_)
          clear hK'
          refine wpAnyH_ready (rs := [7]) (by kernel_rfl) (by simp) (AllReadyH.cons (i := 7) rfl (fun K' hK' => ?_) AllReadyH.nil)
          go_simp
          refine hK'.out _ _ pA (fun hHeld => ?_)
          clear hK'
          refine wpAnyH_ready (rs := [8]) (by kernel_rfl) (by simp) (AllReadyH.cons (i := 8) rfl (fun K' hK' => op_append rfl (.tmp 27) (.tmp 29) 40 rfl _ _ _ rfl rfl hrunA ?_) AllReadyH.nil)
          refine hK'.out _ _ p4 (fun hHeld => ?_)
          clear hK'
          refine wpAnyH_ready (rs := [9]) (by kernel_rfl) (by simp) (AllReadyH.cons (i := 9) rfl (fun K' hK' => ?_) AllReadyH.nil)
          go_simp
          refine hK'.out _ _ hHeld (fun hHeld => ?_)
          clear hK'
          refine wpAnyH_ready (rs := [10]) (by kernel_rfl) (by simp) (AllReadyH.cons (i := 10) rfl (fun K' hK' => ?_) AllReadyH.nil)
          go_simp
          refine hK'.out _ _ p5 (fun hHeld => ?_)
          clear hK'
          refine wpAnyH_done (by kernel_rfl) ⟨rfl, ?_⟩ _
          gi_wp2
          exact hfin.out
        case r7 =>
          go_simp
          refine hK'.out _ _ pA (fun hHeld => ?_)
          clear hK'
          refine wpAnyH_ready (rs := [5]) (by kernel_rfl) (by simp) (AllReadyH.cons (i := 5) rfl (fun K' hK' => ?_) AllReadyH.nil)
          go_simp
          refine hK'.out _ _ hHeld (fun hHeld => ?_)
          clear hK'
          refine wpAnyH_ready (rs := [8]) (by kernel_rfl) (by simp) (AllReadyH.cons (i := 8) rfl (fun K' hK' => op_append rfl (.tmp 27) (.tmp 29) 40 rfl _ _ _ rfl rfl hrunA ?_) AllReadyH.nil)
          refine hK'.out _ _ p4 (fun hHeld => ?_)
          clear hK'
          refine wpAnyH_ready (rs := [9]) (by kernel_rfl) (by simp) (AllReadyH.cons (i := 9) rfl (fun K' hK' => ?_) AllReadyH.nil)
          go_simp
          refine hK'.out _ _ hHeld (fun hHeld => ?_)
          clear hK'
          refine wpAnyH_ready (rs := [10]) (by kernel_rfl) (by simp) (AllReadyH.cons (i := 10) rfl (fun K' hK' => ?_) AllReadyH.nil)
          go_simp
          refine hK'.out _ _ p5 (fun hHeld => ?_)
          clear hK'
          refine wpAnyH_done (by kernel_rfl) ⟨rfl, ?_⟩ _
          gi_wp2
          exact hfin.out
    case done =>
      rintro D ys W hD rfl hI hK
      obtain ⟨ho, hb1, hR, hb2, hB⟩ := hI
      rw [hlists.out] at ho
      have hp := hb1.c
      have hk := fun (k : Nat) (cs : Array Value) (t : TypeId) (fr : Nat × Nat) (q : W.heap[k]? = some (.cells cs t fr)) => cells_kept (grownBy_putObj' W D (.deferred none)) (fun r e => by cases e; exact ⟨_, hK, rfl⟩) q
      have O := Lib.hid (ho.cells hk)
      have HB := Lib.hid (hB.trans (belowK_b (w := w) (Nat.le_refl _) W D _ (.deferred none) (by have := zA.out; have := kA.out.size; omega) hK rfl rfl))
      have h4 : Hid ((hlV zss).length = 4) := by show _ = _; rw [hv.out, listsTo_length]
      clear ho hk hB
      go_wp2
      refine ⟨by simp, .inl ⟨_, _, rfl, run_takeDeferred hK, ?_⟩⟩
      obtain ⟨A7, c7, e7, hc7, own7⟩ := O.out.own
      rw [h4.out] at e7 hc7 own7
      injection e7 with e71 _ e73
      subst e71; subst e73
      refine ⟨_, results_tmp rfl _ _ _, _, 4, by rw [h4.out]; rfl, by rw [h4.out]; exact hc7, ?_, Chg.of_below HB.out 0 0⟩
      rw [h4.out]
      exact own7.more (by have := zw.out; have := z3.out; omega) (Nat.le_refl _)
    case stop =>
      rintro D c pre W _ _ h _
      exact h.elim

end Go.Proofs.Ytdfmkikngifjmaa.Lib1
