/- Chapter 5: the program's DealOfHolders, walked. -/
import Derived.Test.YtdfmkikngifjmaaDohI5
namespace Go.Proofs.Ytdfmkikngifjmaa.Lib1
open Go.RowKit Go.Shelf
set_option maxRecDepth 100000
attribute [local go_sem] Oper.semAt_some

theorem doh_state {L : List (List Int)} (h : dealB (madeRows L) = false) (hh : hlB L = true) : dohE L = 5 ∧ dohV L = [] := by simp [dohE, dohV, h, hh]
theorem doh_yes {L : List (List Int)} (h : dealB (madeRows L) = true) (hh : hlB L = true) : dohE L = 0 ∧ dohV L = madeRows L := by simp [dohE, dohV, h, hh]

/-- A loop; what a round hands on stands behind a letter. -/
theorem wp_loopK {P : Program} {c : Code} {Q : Exit → Act → World → Prop} {a : Act} {w : World} (I : Act → World → Prop) (μ : Act → World → Nat) (h₀ : I a w)
    (round : ∀ a w, I a w → ∀ K : Act → World → Prop, (∀ a' w', I a' w' → μ a' w' < μ a w → K a' w') → c.wp P (Exit.then K Q) a w) : (Code.loop c).wp P Q a w :=
  wp_loop I μ h₀ fun a w hI => round a w hI _ fun _ _ h1 h2 => ⟨h1, h2⟩
/-- Between two rounds of the plain loop. -/
def DhO (w : World) (s : Nat) (L : List (List Int)) (q : Nat) (Ds : List Nat) (W : World) : Prop :=
  OwnVQ W s (.slice (some ⟨s, 0, none⟩) 4 4) (rowsSt L q (L.getD q []).length) ∧ BoxAt W (s + 1) (.slice (some ⟨s, 0, none⟩) 4 4) 25 ∧ BoxAt W w.heap.size (.slice none 0 0) 25 ∧ MarksIn (w.heap.size + 1) Ds W ∧ Below w.heap.size w W

set_option maxHeartbeats 4000000 in
theorem impl_DealOfHolders (A : Option Addr) (n c : Nat) (L : List (List Int)) (lo hi : Nat) (w : World) (h : RdR w lo hi A n L) (hl : ∀ j, j < n → (L.getD j []).length ≤ 1048576) :
    Calls Try.prog 18 #[.slice A n c] w (RetDI w (dohV L) (dohE L)) := by
  have ca := Lib.hid (Chg.of_alloc w (.cells #[.slice none 0 0] 25) 0 0)
  have D0 := Lib.hid (BoxAt.new w (.slice none 0 0) 25 rfl)
  have hz0 : Hid ((w.alloc (.cells #[.slice none 0 0] 25)).heap.size = w.heap.size + 1) := by show _ = _; simp
  refine callsIn_wide.1 (callsIn_of_wp_marks (n := 3) Try.func18 rfl trivial (wpIn_wide.2 ?_) rfl)
  simp only [Try.ntmps18, List.size_toArray, List.length_cons, List.length_nil, Nat.reduceAdd, Nat.reduceSub, Array.replicate_succ, Array.replicate_zero, List.push_toArray, List.append_toArray, List.nil_append, List.cons_append]
  go_wp2_with fail
  refine (areHolderLists A n c L lo hi _ (h.still ca.out) hl).mono ?_
  rintro e w' ⟨rfl, rfl⟩
  generalize w.alloc (.cells #[.slice none 0 0] 25) = W0 at ca D0 hz0 ⊢
  cases hB : hlB L with
  | false =>
    obtain ⟨he, hv⟩ := doh_no hB
    have HE := Lib.hid he
    have HV := Lib.hid hv
    clear he hv hB
    have p1 := D0.out.c
    have f1 := D0.out.f
    have hret := fun u => D0.out.ret u
    have hcf := Lib.hid (ca.out.cell (g := w.heap.size) (i := 0) (v := .slice none 0 0) (Nat.le_refl _))
    go_wp2_with fail
    refine ⟨.tuple #[.agg #[.slice none 0 0], .int .i64 1], (by simp [results, Try.results18, go_sem, hret]; try rfl), RetDI.of_eq HV.out HE.out ⟨none, 0, rfl, Nat.le_refl _, OwnR.none_, hcf.out⟩⟩
  | true =>
    have HHB := Lib.hid hB
    have HHL := Lib.hid (hlB_HL hB)
    obtain rfl : n = 4 := by rw [← h.1]; exact HHL.out.1
    clear hB
    have hmk := make4 W0
    go_wp2_with fail
    have O0 := ((OwnVQ.nil4 W0 (Nat.le_refl _)).still (Chg.of_alloc _ (.cells #[.slice (some ⟨W0.heap.size, 0, none⟩) 4 4] 25) 0 0))
    have G0 := BoxAt.new (W0.alloc (.cells nil4 40)) (.slice (some ⟨W0.heap.size, 0, none⟩) 4 4) 25 (g := W0.heap.size + 1) (by simp)
    have k0 := ((Chg.of_alloc W0 (.cells nil4 40) 0 0).trans (Chg.of_alloc _ (.cells #[.slice (some ⟨W0.heap.size, 0, none⟩) 4 4] 25) 0 0))
    have E0 := D0.out.still k0
    have B0 := (ca.out.trans k0).to_below
    obtain ⟨s, hs⟩ : ∃ s, s = W0.heap.size := ⟨_, rfl⟩
    have zs : w.heap.size < s := by rw [hs, hz0.out]; omega
    rw [← hs] at O0 G0 k0 E0 B0 ⊢
    clear hs hmk hz0 ca D0
    generalize (W0.alloc (.cells nil4 40)).alloc (.cells #[.slice (some ⟨s, 0, none⟩) 4 4] 25) = W1 at O0 G0 k0 E0 B0 ⊢
    have HW : Hid (DhO w s L 0 [] W1) := ⟨by rw [rowsSt_start]; exact O0, G0, E0, ⟨List.nodup_nil, fun _ h => by simp at h⟩, B0⟩
    clear O0 G0 k0 E0 B0
    refine wp_loopK (fun a W => ∃ (q : Nat) (Ds : List Nat) (u5 u6 u19 u20 u21 u22 u23 u24 u43 : Value), a = { tmps := #[.slice A 4 c, undef, .pointer (some ⟨w.heap.size, 0, none⟩), .int .i64 0, .pointer (some ⟨s + 1, 0, none⟩), u5, u6, undef, undef, undef, .slice A 4 c, .bool true, .bool false, undef, .slice (some ⟨s, 0, none⟩) 4 4, .agg #[.slice (some ⟨s, 0, none⟩) 4 4], .slice A 4 c, .int .i64 4, .int .i64 (q : Int), u19, u20, u21, u22, u23, u24, undef, undef, undef, undef, undef, undef, undef, undef, undef, undef, undef, undef, undef, undef, undef, undef, undef, undef, u43, undef, undef, undef, undef, undef], defers := marksOf Ds } ∧ q ≤ 4 ∧ Hid (DhO w s L q Ds W)) (fun a _ => 4 - (intOf (a.tmps.getD 18 undef)).toNat) ⟨0, [], _, _, _, _, _, _, _, _, _, rfl, by omega, HW⟩ ?_
    clear HW
    rintro a wr ⟨q, Ds, u5, u6, u19, u20, u21, u22, u23, u24, u43, rfl, hq, HO⟩ K hK
    have HK : Hid (∀ (a' : Act) (W' : World) (D : Nat) (v5 v6 v19 v20 v21 v22 v23 v24 v43 : Value), q < 4 → a' = { tmps := #[.slice A 4 c, undef, .pointer (some ⟨w.heap.size, 0, none⟩), .int .i64 0, .pointer (some ⟨s + 1, 0, none⟩), v5, v6, undef, undef, undef, .slice A 4 c, .bool true, .bool false, undef, .slice (some ⟨s, 0, none⟩) 4 4, .agg #[.slice (some ⟨s, 0, none⟩) 4 4], .slice A 4 c, .int .i64 4, .int .i64 ((q : Int) + 1), v19, v20, v21, v22, v23, v24, undef, undef, undef, undef, undef, undef, undef, undef, undef, undef, undef, undef, undef, undef, undef, undef, undef, undef, v43, undef, undef, undef, undef, undef], defers := marksOf (D :: Ds) } → Hid (DhO w s L (q + 1) (D :: Ds) W') → K a' W') := by
      intro a' W' D v5 v6 v19 v20 v21 v22 v23 v24 v43 hq4 e hO
      subst e
      exact hK _ _ ⟨q + 1, D :: Ds, v5, v6, v19, v20, v21, v22, v23, v24, v43, by rfl, by omega, hO⟩ (by simp [intOf]; omega)
    clear hK
    by_cases hlt : q < 4
    · have hqI : (q : Int) < 4 := by omega
      obtain ⟨ho, hg, hr0, hm, hB⟩ := HO.out
      have kw := Lib.hid (Chg.of_below hB 0 0)
      obtain ⟨b, off, Bq, Cq, rfl, _, hbhi, hcw0, hrw0, hrl, _⟩ := h.at_ hlt
      have hcw := box_still hcw0 kw.out
      have hrow : L.getD q [] = L.getD q [] := rfl
      have h13 := Lib.hid (HHL.out.2.1 q)
      have hdone := Lib.hid (fun row (e : L.getD q [] = row) => foldD_done HHL.out e)
      have hmem := Lib.hid (fun (x : Int) (hx : x ∈ L.getD q []) => HHL.out.2.2 q x hx)
      clear hrow
      obtain ⟨row, hrow⟩ : ∃ row, L.getD q [] = row := ⟨_, rfl⟩
      have hdn := Lib.hid (hdone.out row hrow)
      clear hdone
      rw [hrow] at hcw hrw0 hrl h13 hmem ho
      have hr13 : row.length ≤ 13 := h13.out
      have HROW := Lib.hid hrow
      clear hrow
      go_wp2_with fail
      refine (callsIn_wide.1 (Backward64 3 _ _ _ _)).mono ?_
      rintro e w' ⟨rfl, rfl⟩
      have z1 : Hid ((wr.alloc (.cells #[.int .i64 (q : Int)] 3)).heap.size = wr.heap.size + 1) := by show _ = _; simp
      have BQ := BoxAt.new wr (.int .i64 (q : Int)) 3 rfl
      have BQ2 := Lib.hid (BQ.alloc (.cells #[.slice Bq row.length Cq] 40))
      have BS := Lib.hid (BoxAt.new (wr.alloc (.cells #[.int .i64 (q : Int)] 3)) (.slice Bq row.length Cq) 40 z1.out)
      have k2 := Lib.hid ((Chg.of_alloc wr (.cells #[.int .i64 (q : Int)] 3) 0 0).trans (Chg.of_alloc _ (.cells #[.slice Bq row.length Cq] 40) 0 0))
      have z2 : Hid (((wr.alloc (.cells #[.int .i64 (q : Int)] 3)).alloc (.cells #[.slice Bq row.length Cq] 40)).heap.size = wr.heap.size + 2) := by show _ = _; simp
      rw [z1.out]
      generalize (wr.alloc (.cells #[.int .i64 (q : Int)] 3)).alloc (.cells #[.slice Bq row.length Cq] 40) = W2 at BQ2 BS k2 z2 ⊢
      clear BQ z1
      obtain ⟨rb, ro, hra, hrb, hrc⟩ : ∃ rb ro, (0 < row.length → Bq = some ⟨rb, ro, none⟩) ∧ rb ≤ w.heap.size ∧ ∀ j, j < row.length → W2.cell? ⟨rb, ro + j, none⟩ = some (.int .i64 (row.getD j 0)) := by
        rcases Nat.eq_zero_or_pos row.length with e | e
        · exact ⟨w.heap.size, 0, fun h => by omega, Nat.le_refl _, fun j hj => by omega⟩
        · obtain ⟨rb, ro, e1, _, e3, hc⟩ := hrw0.2 e
          exact ⟨rb, ro, fun _ => e1, Nat.le_of_lt (lt_of_cell (hc 0 e)), fun j hj => box_still (box_still (hc j hj) kw.out) k2.out⟩
      have hI0 : DhI w s q wr.heap.size (.slice Bq row.length Cq) row (rowsSt L q row.length) Ds [] W2 := ⟨ho.kept fun k _ hk => k2.out.block k hk (.inr (Nat.zero_le _)), hg.still k2.out, BQ2.out, BS.out, hr0.still k2.out, ⟨hm.1, fun D hD => ⟨(hm.2 D hD).1, (k2.out.block D (lt_of_block (hm.2 D hD).2) (.inr (Nat.zero_le _))).trans (hm.2 D hD).2⟩⟩, hB.trans (k2.out.to_below.mono hB.size)⟩
      have hDs : ∀ D ∈ Ds, D < W2.heap.size := fun D hD => by have := lt_of_block (hm.2 D hD).2; have := z2.out; omega
      have hsz : s + 1 < wr.heap.size := hg.lt
      have hwz := hB.size
      have hbox : W2.cell? ⟨wr.heap.size + 1, 0, none⟩ = some (.slice Bq row.length Cq) := BS.out.c
      clear hcw hcw0 hrw0 ho hg hr0 hm hB
      go_wp2_with fail
      refine wpIn_wide.1 (wpIn_rangeFunc_ownG (F := Fence.wide) (n := 3) rfl (by omega) (gf := 111) (lb := #[.pointer (some ⟨wr.heap.size + 1, 0, none⟩)]) rfl trivial (enters_of Try.func111 (by kernel_rfl) rfl)
        (backward_stopsY 2 (wr.heap.size + 1) rb ro Cq Bq row hra (by omega) W2 (by have := z2.out; omega) (by have := z2.out; omega) hbox hrc) KpB.trans (KpB.put (by have := z2.out; omega) (by have := z2.out; omega)) (Below.refl _ _) (fun _ => rfl)
        (DhI w s q wr.heap.size (.slice Bq row.length Cq) row (rowsSt L q row.length) Ds) (fun _ _ _ => False) (DhI.own (by have := z2.out; omega) hDs) (fun _ _ _ _ _ hs _ _ => hs) hI0
        (fun x => { tmps := #[.slice (some ⟨b, off, none⟩) 4 c, undef, .pointer (some ⟨w.heap.size, 0, none⟩), .int .i64 0, .pointer (some ⟨s + 1, 0, none⟩), .pointer (some ⟨wr.heap.size, 0, none⟩), .slice Bq row.length Cq, .int .i64 (x.val : Int), .int .i64 (row.getD x.val 0), undef, .slice (some ⟨b, off, none⟩) 4 c, .bool true, .bool false, undef, .slice (some ⟨s, 0, none⟩) 4 4, .agg #[.slice (some ⟨s, 0, none⟩) 4 4], .slice (some ⟨b, off, none⟩) 4 c, .int .i64 4, .int .i64 (q : Int), .bool true, .int .i64 (q : Int), .pointer (some ⟨b, off + q, none⟩), .slice Bq row.length Cq, .slice Bq row.length Cq, .func (.func 111) #[] #[.pointer (some ⟨wr.heap.size + 1, 0, none⟩)], .int .i64 (x.val : Int), .int .i64 (row.getD x.val 0), undef, undef, undef, undef, undef, undef, undef, undef, undef, undef, undef, undef, undef, undef, undef, undef, u43, undef, undef, undef, undef, undef], defers := [] }) ?assign ?body ?done ?stop)
      case assign =>
        intro l x W K hK
        dsimp only [bxE]
        generalize row.getD x.val 0 = zx at hK ⊢
        gi_wp2
        exact hK
      case body =>
        rintro l pre x W ⟨ho, hg, h5, h5', hr0, hm, hB⟩ hlen
        have hF := Lib.hid (foldD_snoc q row (rowsSt L q row.length) pre x)
        have HLN := Lib.hid (fun j => foldD_len q row pre (rowsSt L q row.length) 65 (fun i => by have := rowsSt_len L HHL.out.2.1 q row.length i; omega) j)
        have HLE : Hid ((foldD q row (rowsSt L q row.length) pre).length = 4) := by show _ = _; rw [foldD_length]; rfl
        have hmx := hmem.out (row.getD x.val 0) (by rw [getD_at _ _ x.isLt]; exact List.getElem_mem _)
        obtain ⟨t, ht⟩ : ∃ t : Nat, row.getD x.val 0 = (t : Int) := ⟨(row.getD x.val 0).toNat, by omega⟩
        have ht4 : t < 4 := by omega
        obtain ⟨m, hmr⟩ := x
        dsimp only at hF ht ⊢
        have hF2 : Hid (foldD q row (rowsSt L q row.length) (pre ++ [⟨m, hmr⟩]) = (foldD q row (rowsSt L q row.length) pre).set t ((foldD q row (rowsSt L q row.length) pre).getD t [] ++ [13 * (q : Int) + 12 - (m : Int)])) := by
          show _ = _
          rw [hF.out]; unfold stepD; rw [ht]; simp
        rw [ht]
        have hrl0 : ((foldD q row (rowsSt L q row.length) pre).getD t []).length ≤ 1048576 := by have := HLN.out t; omega
        have hcv : cardV (q : Int) (12 - (m : Int)) = 13 * (q : Int) + 12 - (m : Int) := by rw [cardV_yes ⟨by omega, by omega⟩]; omega
        have hmI : (m : Int) < 13 := by omega
        have p5 := h5.c
        clear hF hmx ht
        gi_wp2_with (refine ⟨trivial, ?_⟩; gi_at_call 67; refine (CallsIn.inRound l (callsIn_wide.2 (impl_CardOf _ _ _))).mono ?_; rintro e w' ⟨rfl, rfl⟩)
        clear hcv
        generalize 13 * (q : Int) + 12 - (m : Int) = z at hF2 ⊢
        have hql : (t : Int) < 4 := by omega
        have dr := Lib.hid (show Chg W W.drew 0 0 from Chg.drewN W 1 0 0)
        obtain ⟨g, cap, u, hv', hg1, hg2, hcell, hfr, hou, hback⟩ := (ho.kept (fun k _ hk => dr.out.block k hk (.inr (Nat.zero_le _)))).grow (j := t) (by rw [HLE.out]; exact ht4)
        rw [HLE.out] at hv'
        injection hv' with hv1 _ hv3
        injection hv1 with hv1
        injection hv1 with hv1 _ _
        subst hv1
        subst hv3
        obtain ⟨v', w4, hrun, o4, b4, k4, n4⟩ := run_pushQ s hou z hrl0 (by have := hg2; omega)
        obtain ⟨s1, s2, s3⟩ := hback w4 v' _ o4 k4 n4
        obtain ⟨rw5, hrw5⟩ : ∃ rw5, (foldD q row (rowsSt L q row.length) pre).getD t [] = rw5 := ⟨_, rfl⟩
        rw [hrw5] at hou hrl0 o4 hF2 s3
        have hlen4 : (rw5 ++ [z]).length = rw5.length + 1 := by simp
        obtain ⟨A4, c4, rfl, _, _, _⟩ := o4.form
        obtain ⟨A5, c5, rfl, _, _, _⟩ := hou.form
        have p1 := (show BoxAt W.drew _ _ _ from hg).c
        have pA : (W.alloc (.cells #[.int .i64 z] 2)).drew.cell? ⟨s + 1, 0, none⟩ = some (.slice (some ⟨s, 0, none⟩) 4 4) := (show BoxAt (W.alloc (.cells #[.int .i64 z] 2)).drew _ _ _ from hg.alloc _).c
        have hrunA : (Builtin.append_ #[40, 40] 40 #[.slice A5 rw5.length c5, .slice (some ⟨W.heap.size, 0, none⟩) 1 1]).run Try.prog (W.alloc (.cells #[.int .i64 z] 2)).drew = .ok (.slice A4 (rw5.length + 1) c4) w4 := by rw [← hlen4]; exact hrun
        have hb4 : BoxAt w4 (s + 1) (.slice (some ⟨s, 0, none⟩) 4 4) 25 := (k4 _ hg.lt (hou.ne (show W.drew.heap[_]? = _ from hg) (by decide))).trans hg
        have p4 := hb4.c
        have p6 := (hb4.set (g := s) (i := t) (u := .slice A4 (rw5.length + 1) c4) (by omega)).c
        have k5 : ∀ (k : Nat) (o : Obj), k ≠ s → W.heap[k]? = some o → (∀ cs fr, o ≠ .cells cs 2 fr) → (w4.setCell ⟨s, t, none⟩ (.slice A4 (rw5.length + 1) c4)).heap[k]? = some o := fun k o hne hk ho' =>
          (Below.heap_setCell _ _ _ _ hne).trans ((k4 k (lt_of_block hk) (fun e' => by
            obtain ⟨_, _, cur, hc⟩ := hou.blockT e'
            rw [show W.drew.heap[k]? = some o from hk] at hc
            cases hc
            exact ho' _ _ rfl)).trans hk)
        have kc : ∀ (k : Nat) (cs : Array Value) (ty : TypeId) (fr : Nat × Nat), W.heap[k]? = some (.cells cs ty fr) → ty ≠ 2 → k ≠ s → (w4.setCell ⟨s, t, none⟩ (.slice A4 (rw5.length + 1) c4)).heap[k]? = some (.cells cs ty fr) := fun k cs ty fr hk ht hne => k5 k _ hne hk (fun cs' fr' e => by cases e; exact ht rfl)
        have kf : KeepsFrom W2.heap.size W (w4.setCell ⟨s, t, none⟩ (.slice A4 (rw5.length + 1) c4)) := ⟨by have := b4.size; simpa [World.setCell] using this, fun k o hk hk' ho' => k5 k o (by have := z2.out; omega) hk' (fun cs fr e => by subst e; cases ho')⟩
        have hzw : w.heap.size ≤ s := by omega
        have hBf : Below w.heap.size w (w4.setCell ⟨s, t, none⟩ (.slice A4 (rw5.length + 1) c4)) := Below.setAt (hB.trans (((Below.refl _ _).drew).trans (b4.mono hzw))) hzw
        rw [hlen4, ← hF2.out] at s3
        have hmk' : MarksIn (w.heap.size + 1) Ds (w4.setCell ⟨s, t, none⟩ (.slice A4 (rw5.length + 1) c4)) := ⟨hm.1, fun D hD => ⟨(hm.2 D hD).1, k5 D _ (by
            rintro rfl
            obtain ⟨cs, hcs⟩ := (show ∃ cs, W.drew.heap[D]? = some (.cells cs 40 (0, 0)) from (by
              obtain ⟨vs, ⟨_, hh⟩, _⟩ := ho
              rcases hh with ⟨e0, _⟩ | ⟨gg, cap', cur, e1, _, hh2, _⟩
              · cases e0
              · injection e1 with e1
                injection e1 with e1
                injection e1 with e1 _ _
                subst e1
                exact ⟨cur, hh2⟩))
            rw [show W.drew.heap[D]? = _ from (hm.2 D hD).2] at hcs
            cases hcs) (hm.2 D hD).2 (fun cs fr e => by cases e)⟩⟩
        have hkp : KpB rb (wr.heap.size + 1) W (w4.setCell ⟨s, t, none⟩ (.slice A4 (rw5.length + 1) c4)) := ⟨(Below.heap_setCell _ _ _ _ (by show rb ≠ s; omega)).trans (k4 rb (by show rb < W.heap.size; have := hg.lt; omega) (fun e => by have := hou.block rb e; omega)), (kc _ _ _ _ h5' (by decide) (by omega)).trans (show W.heap[_]? = _ from h5').symm⟩
        have hfin := Lib.hid (show KeepsFrom W2.heap.size W _ ∧ KpB rb (wr.heap.size + 1) W _ ∧ DhI w s q wr.heap.size (.slice Bq row.length Cq) row (rowsSt L q row.length) Ds (pre ++ [⟨m, hmr⟩]) (w4.setCell ⟨s, t, none⟩ (.slice A4 (rw5.length + 1) c4)) from
          ⟨kf, hkp, s3, kc _ _ _ _ hg (by decide) (by omega), kc _ _ _ _ h5 (by decide) (by omega), kc _ _ _ _ h5' (by decide) (by omega), kc _ _ _ _ hr0 (by decide) (by omega), hmk', hBf⟩)
        have hcellA : (W.alloc (.cells #[.int .i64 z] 2)).drew.cell? ⟨s, t, none⟩ = some (.slice A5 rw5.length c5) := box_still hcell (Chg.of_alloc W.drew (.cells #[.int .i64 z] 2) 0 0)
        clear kf k5 kc hBf s3 hmk' hkp hm ho hback o4 b4 k4 n4
        refine round_any (fun V => V.cell? ⟨s + 1, 0, none⟩ = some (.slice (some ⟨s, 0, none⟩) 4 4)) (by kernel_rfl) (by kernel_rfl) p1 (fun hHeld => ?_)
        refine wpAnyH_take (i := 0) (v := .pointer (some ⟨s + 1, 0, none⟩)) rfl (by kernel_rfl) (by kernel_rfl) (by kernel_rfl) AtEnd.panic (.inl ⟨by rfl, fun V hV => by go_simp⟩) hHeld ?_
        refine wpAnyH_take (i := 1) (v := .slice (some ⟨s, 0, none⟩) 4 4) rfl (by kernel_rfl) (by kernel_rfl) (by kernel_rfl) AtEnd.panic (.inl ⟨by rfl, fun V hV => by go_simp⟩) hHeld ?_
        refine wpAnyH_take (i := 2) (v := .int .i64 (t : Int)) rfl (by kernel_rfl) (by kernel_rfl) (by kernel_rfl) AtEnd.panic (.inl ⟨by rfl, fun V hV => by go_simp⟩) hHeld ?_
        refine wpAnyH_take (i := 3) (v := .pointer (some ⟨s + 1, 0, none⟩)) rfl (by kernel_rfl) (by kernel_rfl) (by kernel_rfl) AtEnd.panic (.inl ⟨by rfl, fun V hV => by go_simp⟩) hHeld ?_
        refine wpAnyH_take (i := 4) (v := .slice (some ⟨s, 0, none⟩) 4 4) rfl (by kernel_rfl) (by kernel_rfl) (by kernel_rfl) AtEnd.panic (.inl ⟨by rfl, fun V hV => by go_simp⟩) hHeld ?_
        refine wpAnyH_take (i := 5) (v := .int .i64 (t : Int)) rfl (by kernel_rfl) (by kernel_rfl) (by kernel_rfl) AtEnd.panic (.inl ⟨by rfl, fun V hV => by go_simp⟩) hHeld ?_
        refine wpAnyH_take (i := 6) (v := .pointer (some ⟨s, t, none⟩)) rfl (by kernel_rfl) (by kernel_rfl) (by kernel_rfl) AtEnd.panic (.inl ⟨by rfl, fun V hV => by go_simp⟩) hHeld ?_
        refine wpAnyH_take (i := 8) (v := .int .i64 z) rfl (by kernel_rfl) (by kernel_rfl) (by kernel_rfl) AtEnd.panic (.inl ⟨by rfl, fun V hV => by go_simp⟩) hHeld ?_
        refine wpAnyH_ready (rs := [7, 9]) (by kernel_rfl) (by simp) (AllReadyH.cons (i := 7) rfl (fun K' hK' => ?r7) (AllReadyH.cons (i := 9) rfl (fun K' hK' => ?r9) AllReadyH.nil))
        case' r7 =>
          go_simp
          refine hK'.out _ _ hHeld (fun hHeld => ?_)
          clear hK'
          refine wpAnyH_ready (rs := [9]) (by kernel_rfl) (by simp) (AllReadyH.cons (i := 9) rfl (fun K' hK' => ?_) AllReadyH.nil)
          go_simp
          refine hK'.out _ _ pA (fun hHeld => ?_)
          clear hK'
        case' r9 =>
          go_simp
          refine hK'.out _ _ pA (fun hHeld => ?_)
          clear hK'
          refine wpAnyH_ready (rs := [7]) (by kernel_rfl) (by simp) (AllReadyH.cons (i := 7) rfl (fun K' hK' => ?_) AllReadyH.nil)
          go_simp
          refine hK'.out _ _ hHeld (fun hHeld => ?_)
          clear hK'
        all_goals
          refine wpAnyH_ready (rs := [10]) (by kernel_rfl) (by simp) (AllReadyH.cons (i := 10) rfl (fun K' hK' => op_append rfl (.tmp 38) (.tmp 40) 40 rfl _ _ _ rfl rfl hrunA ?_) AllReadyH.nil)
          refine hK'.out _ _ p4 (fun hHeld => ?_)
          clear hK'
          refine wpAnyH_ready (rs := [11]) (by kernel_rfl) (by simp) (AllReadyH.cons (i := 11) rfl (fun K' hK' => ?_) AllReadyH.nil)
          go_simp
          refine hK'.out _ _ hHeld (fun hHeld => ?_)
          clear hK'
          refine wpAnyH_ready (rs := [12]) (by kernel_rfl) (by simp) (AllReadyH.cons (i := 12) rfl (fun K' hK' => ?_) AllReadyH.nil)
          go_simp
          refine hK'.out _ _ p6 (fun hHeld => ?_)
          clear hK'
          refine wpAnyH_done (by kernel_rfl) ⟨rfl, ?_⟩ _
          gi_wp2
          exact hfin.out
      case done =>
        rintro D ys W hD rfl ⟨ho, hg, _, _, hr0, hm, hB⟩ hK
        rw [hdn.out] at ho
        have HN : Hid (DhO w s L (q + 1) (D :: Ds) W) := ⟨ho, hg, hr0, ⟨List.nodup_cons.2 ⟨fun hin => by have := hDs D hin; omega, hm.1⟩, fun E hE => by
          rcases List.mem_cons.1 hE with rfl | hE
          · exact ⟨by have := z2.out; omega, hK⟩
          · exact hm.2 E hE⟩, hB⟩
        clear ho hg hr0 hm hB hK
        go_wp2_with fail
        exact HK.out _ _ D _ _ _ _ _ _ _ _ _ hlt rfl HN
      case stop =>
        rintro D cc pre W _ _ hx _
        exact hx.elim
    · obtain rfl : q = 4 := by omega
      clear HK
      obtain ⟨ho, hg, hr0, hm, hB⟩ := HO.out
      rw [rowsSt_done] at ho
      obtain ⟨A9, c9, e9, _, own9⟩ := ho.own
      have hm4 : (madeRows L).length = 4 := rfl
      rw [hm4] at e9 own9
      injection e9 with e91 _ e93
      subst e91; subst e93
      have hdc := Lib.hid (isDeal (some ⟨s, 0, none⟩) 4 4 (madeRows L) _ _ wr own9.rd)
      have pg := hg.c
      have HM4 := Lib.hid hm4
      have O9 := Lib.hid (own9.more (lo' := w.heap.size) (by omega) (Nat.le_refl _))
      clear ho own9 hm4
      have mk := Lib.hid (fun (V : World) (c1 : Chg wr V 0 0) (u : Value) => (show MarksIn (w.heap.size + 1) Ds (V.setCell ⟨w.heap.size, 0, none⟩ u) from ⟨hm.1, fun D hD => ⟨(hm.2 D hD).1, (Below.heap_setCell _ _ _ _ (by have := (hm.2 D hD).1; show D ≠ w.heap.size; omega)).trans ((c1.block D (lt_of_block (hm.2 D hD).2) (.inr (Nat.zero_le _))).trans (hm.2 D hD).2)⟩⟩))
      cases hd : dealB (madeRows L) with
      | false =>
        obtain ⟨he, hv⟩ := doh_state hd HHB.out
        have HE := Lib.hid he
        have HV := Lib.hid hv
        rw [hd] at hdc
        clear he hv hd
        go_wp2_with fail
        refine hdc.out.mono ?_
        rintro e w8 ⟨rfl, c8⟩
        have R8 := hr0.still c8
        have p1 := R8.c
        have f1 := R8.f
        have RP := Lib.hid (R8.put (.slice none 0 0))
        have M8 := Lib.hid (mk.out w8 c8 (.slice none 0 0))
        have B8 := Lib.hid ((hB.trans (c8.to_below.mono hB.size)).setCell (p := ⟨w.heap.size, 0, none⟩) (Nat.le_refl _) (.slice none 0 0))
        clear R8 hg hr0 hm hB
        go_wp2_with fail
        refine leaves_marks (B := w.heap.size + 1) Ds _ M8.out fun W' hk hb => ?_
        have hret := (show BoxAt W' w.heap.size _ _ from hk _ _ _ _ RP.out).c
        exact ⟨.tuple #[.agg #[.slice none 0 0], .int .i64 5], (by simp [results, Try.results18, go_sem, hret]; try rfl), RetDI.of_eq HV.out HE.out ⟨none, 0, rfl, Nat.le_refl _, OwnR.none_, Chg.of_below (B8.out.trans (hb.mono (Nat.le_succ _))) 0 0⟩⟩
      | true =>
        obtain ⟨he, hv⟩ := doh_yes hd HHB.out
        have HE := Lib.hid he
        have HV := Lib.hid hv
        rw [hd] at hdc
        clear he hv hd
        go_wp2_with fail
        refine hdc.out.mono ?_
        rintro e w8 ⟨rfl, c8⟩
        have R8 := hr0.still c8
        have p1 := R8.c
        have f1 := R8.f
        have pg8 := (hg.still c8).c
        have RP := Lib.hid (R8.put (.slice (some ⟨s, 0, none⟩) 4 4))
        have M8 := Lib.hid (mk.out w8 c8 (.slice (some ⟨s, 0, none⟩) 4 4))
        have B8 := Lib.hid ((hB.trans (c8.to_below.mono hB.size)).setCell (p := ⟨w.heap.size, 0, none⟩) (Nat.le_refl _) (.slice (some ⟨s, 0, none⟩) 4 4))
        have P8 := Lib.hid (((O9.out.still c8).store (u := .slice (some ⟨s, 0, none⟩) 4 4) R8))
        have z8 := Lib.hid (c8.size)
        clear R8 hg hr0 hm hB
        go_wp2_with fail
        refine leaves_marks (B := w.heap.size + 1) Ds _ M8.out fun W' hk hb => ?_
        have hret := (show BoxAt W' w.heap.size _ _ from hk _ _ _ _ RP.out).c
        refine ⟨.tuple #[.agg #[.slice (some ⟨s, 0, none⟩) 4 4], .int .i64 0], (by simp [results, Try.results18, go_sem, hret]; try rfl), RetDI.of_eq HV.out HE.out ⟨some ⟨s, 0, none⟩, 4, by rw [HM4.out], by rw [HM4.out]; exact Nat.le_refl _, ?_, Chg.of_below (B8.out.trans (hb.mono (Nat.le_succ _))) 0 0⟩⟩
        rw [HM4.out]
        have zfin : wr.heap.size ≤ W'.heap.size := by
          have h1 := hb.size
          have h2 := z8.out
          have h3 : (w8.setCell ⟨w.heap.size, 0, none⟩ (.slice (some ⟨s, 0, none⟩) 4 4)).heap.size = w8.heap.size := by simp [World.setCell]
          omega
        exact (P8.out.cellsT (T := 88) (by decide) (by decide) fun k cs t fr _ q => hk k cs t fr q).more (Nat.le_refl _) zfin

end Go.Proofs.Ytdfmkikngifjmaa.Lib1
