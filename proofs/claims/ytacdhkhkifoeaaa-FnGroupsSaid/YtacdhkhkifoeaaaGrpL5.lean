/- Chapter 5: the draw of a deal and a seat; the law FnGroups. -/
import Derived.Test.YtacdhkhkifoeaaaDraw5
import Derived.Test.YtacdhkhkifoeaaaRel5
import Derived.Test.YtacdhkhkifoeaaaEqc5
import Derived.Test.YtacdhkhkifoeaaaMadeS5
import Derived.Deep.RegionHeld3
namespace Go.Proofs.Ytacdhkhkifoeaaa.Lib1
open Go.RowKit
set_option maxRecDepth 100000

/-- A deal and a number were drawn. -/
def DrewDN (w : World) (e : Ending) (w' : World) : Prop :=
  ∃ A n c zss x, e = .returned (.tuple #[.agg #[.slice A n c], .int .i64 x]) ∧ n ≤ 4 ∧ n ≤ c ∧ RdR w' w.heap.size w'.heap.size A n zss ∧ Rows15 zss ∧ -1 ≤ x ∧ x ≤ 4 ∧ Below w.heap.size w w'
theorem dn_end {w W : World} {A : Option Addr} {n c : Nat} {zss : List (List Int)} {x : Int} {V : Value} (hn : n ≤ 4) (hc : n ≤ c) (rd : RdR W (w.heap.size + 1) W.heap.size A n zss) (h15 : Rows15 zss) (x0 : -1 ≤ x) (x1 : x ≤ 4) (b : Below w.heap.size w W) :
    DrewDN w (.returned (.tuple #[.agg #[.slice A n c], .int .i64 x])) (W.setCell ⟨w.heap.size, 0, none⟩ V) := by
  have st : Chg W (W.setCell ⟨w.heap.size, 0, none⟩ V) w.heap.size (w.heap.size + 1) := (Chg.refl _ _ _).store (Nat.le_refl _) (by show w.heap.size < w.heap.size + 1; omega) _
  exact ⟨A, n, c, zss, x, rfl, hn, hc, (rd.chg st (.inr (Nat.le_refl _))).more (by omega) st.size, h15, x0, x1, Below.setAt b (Nat.le_refl _)⟩

set_option maxHeartbeats 2000000 in
/-- spec.DrawGroupsOf -/
theorem DrawGroupsOf (A : Option Addr) (n c : Nat) (w : World) (h : Bytes w A n) (hn : n ≤ 1048576) : Calls Try.prog 24 #[.slice A n c] w (DrewDN w) := by
  have ca := Lib.hid (Chg.of_alloc w (.cells #[.slice none 0 0] 26) 0 0)
  have R0 := Lib.hid (BoxAt.new w (.slice none 0 0) 26 rfl)
  have hB0 := Lib.hid (h.chg (ca.out.any w.heap.size w.heap.size))
  have hz0 : Hid ((w.alloc (.cells #[.slice none 0 0] 26)).heap.size = w.heap.size + 1) := by show _ = _; simp
  go_enter Try.func24, Try.ntmps24
  go_wp2_with fail
  generalize w.alloc (.cells #[.slice none 0 0] 26) = w0 at ca R0 hB0 hz0
  refine (l01From A n c _ hB0.out hn).mono ?_
  rintro e w1 ⟨rfl, s1, b1⟩
  generalize hgq : w0.heap.size = g at s1 b1
  have hg : Hid (g = w.heap.size + 1) := by show _ = _; rw [← hgq]; exact hz0.out
  have R1 := Lib.hid (show BoxAt w1 w.heap.size (.slice none 0 0) 26 from (b1.block _ (by have := hg.out; omega)).trans R0.out)
  have B1 := Lib.hid ((ca.out.to_below).trans (b1.mono (by have := hg.out; omega)))
  clear R0 hB0 b1 ca hz0
  have HG := Lib.hid hgq
  clear hgq
  go_wp2_with fail
  refine (l01Next g 12 _ s1 (by omega)).mono ?_
  rintro e w2 ⟨r, rfl, ⟨r0, _⟩, s2, k2⟩
  have R2 := Lib.hid (R1.out.far k2 (by have := hg.out; omega))
  have B2 := Lib.hid (Chg.above B1.out k2 B1.out.size (.inl (by have := hg.out; omega)))
  have l2 := Lib.hid s2.lt
  clear R1 B1 k2 s1
  by_cases hr : r = 0
  · subst hr
    go_wp2_with fail
    refine (l05Draw g _ s2).mono ?_
    rintro e w3 ⟨A3, n3, c3, zss, rfl, hn3, hc3, rd3, h15, s3, k3⟩
    have R3 := Lib.hid (R2.out.far k3 (by have := hg.out; omega))
    have B3 := Lib.hid (Chg.above B2.out k3 B2.out.size (.inl (by have := hg.out; omega)))
    have RD3 := Lib.hid rd3
    have H15 := Lib.hid h15
    clear R2 B2 k3 s2 rd3 h15
    go_wp2_with fail
    refine (l01Next g 2 _ s3 (by omega)).mono ?_
    rintro e w4 ⟨r4, rfl, ⟨r40, r41⟩, s4, k4⟩
    have r42 := r41 (by omega)
    have R4 := Lib.hid (R3.out.far k4 (by have := hg.out; omega))
    have B4 := Lib.hid (Chg.above B3.out k4 B3.out.size (.inl (by have := hg.out; omega)))
    have RD4 := Lib.hid (((RD3.out.chg k4 (.inr l2.out)).more (lo' := w.heap.size + 1) (by have := hg.out; have := l2.out; omega) k4.size))
    have p1 := R4.out.c
    have f1 := R4.out.f
    have hret := fun u => R4.out.ret u
    clear R3 B3 RD3 k4 s3 s4 r41
    go_wp2_with fail
    (try simp only [Exit.inBlock, Exit.then])
    refine bodyPost_ret (v := .tuple #[.agg #[.slice A3 n3 c3], .int .i64 (5 * r4 - 1)]) (by simp [results, Try.results24, go_sem, hret]; try rfl) rfl ?_
    exact dn_end hn3 hc3 RD4.out H15.out (by omega) (by omega) B4.out
  · have hrb : (r == 0) = false := by simpa using hr
    go_wp2_with fail
    refine (l05Draw g _ s2).mono ?_
    rintro e w3 ⟨A3, n3, c3, zss, rfl, hn3, hc3, rd3, h15, s3, k3⟩
    have R3 := Lib.hid (R2.out.far k3 (by have := hg.out; omega))
    have B3 := Lib.hid (Chg.above B2.out k3 B2.out.size (.inl (by have := hg.out; omega)))
    have RD3 := Lib.hid rd3
    have H15 := Lib.hid h15
    clear R2 B2 k3 s2 rd3 h15
    go_wp2_with fail
    refine (l01Next g 4 _ s3 (by omega)).mono ?_
    rintro e w4 ⟨r4, rfl, ⟨r40, r41⟩, s4, k4⟩
    have r42 := r41 (by omega)
    have R4 := Lib.hid (R3.out.far k4 (by have := hg.out; omega))
    have B4 := Lib.hid (Chg.above B3.out k4 B3.out.size (.inl (by have := hg.out; omega)))
    have RD4 := Lib.hid (((RD3.out.chg k4 (.inr l2.out)).more (lo' := w.heap.size + 1) (by have := hg.out; have := l2.out; omega) k4.size))
    have p1 := R4.out.c
    have f1 := R4.out.f
    have hret := fun u => R4.out.ret u
    clear R3 B3 RD3 k4 s3 s4 r41
    go_wp2_with fail
    (try simp only [Exit.inBlock, Exit.then])
    refine bodyPost_ret (v := .tuple #[.agg #[.slice A3 n3 c3], .int .i64 r4]) (by simp [results, Try.results24, go_sem, hret]; try rfl) rfl ?_
    exact dn_end hn3 hc3 RD4.out H15.out (by omega) (by omega) B4.out

theorem grpE_zero {zss : List (List Int)} {s : Int} (h : grpE zss s = 0) : dealB zss = true ∧ inB s 0 3 = true := by
  unfold grpE at h
  cases hd : dealB zss <;> cases hi : inB s 0 3 <;> simp [hd, hi] at h ⊢
theorem grpV_none {zss : List (List Int)} {s : Int} (h : ¬ grpE zss s = 0) : grpV zss s = [] := by
  unfold grpE at h
  unfold grpV
  cases hd : dealB zss <;> cases hi : inB s 0 3 <;> simp [hd, hi] at h ⊢
theorem flat_take {gs : List (List Int)} {i : Nat} (hi : i < gs.length) : (gs.take (i + 1)).flatten = (gs.take i).flatten ++ gs.getD i [] := by
  rw [List.take_succ_eq_append_getElem hi, List.flatten_append, getD_row hi]; simp

theorem flat_bound {gs : List (List Int)} {m : Nat} (h : ∀ j, (gs.getD j []).length ≤ m) : ∀ k, k ≤ gs.length → ((gs.take k).flatten).length ≤ m * k
  | 0, _ => by simp
  | k + 1, hk => by have := flat_bound h k (by omega); have := h k; rw [flat_take (by omega), List.length_append, Nat.mul_succ]; omega

set_option maxHeartbeats 4000000 in
theorem law_Groups (A : Option Addr) (n c : Nat) (w : World) (h : Bytes w A n) :
    Calls Try.prog 4 #[.slice A n c] w fun e w' => e = .returned (.bool true) ∧ Below w.heap.size w w' := by
  by_cases hbig : 4096 < n
  · have hb : Hid (decide (4096 < n) = true) := by show _ = _; simpa using hbig
    go_enter Try.func4, Try.ntmps4
    go_wp2_with fail
    refine (big _ _ _ _).mono ?_
    rintro e w' ⟨rfl, rfl⟩
    rw [hb.out]
    go_wp2_with fail
    go_ret
    exact ⟨rfl, Below.refl _ _⟩
  have hb : Hid (decide (4096 < n) = false) := by show _ = _; simpa using hbig
  have hn : n ≤ 1048576 := by omega
  clear hbig
  go_enter Try.func4, Try.ntmps4
  go_wp2_with fail
  refine (big _ _ _ _).mono ?_
  rintro e w' ⟨rfl, rfl⟩
  rw [hb.out]
  go_wp2_with fail
  refine (DrawGroupsOf A n c _ h hn).mono ?_
  rintro e w1 ⟨A1, n1, c1, zss, s, rfl, hn1, _, rd1, h15', s0, s1, B1⟩
  have h15 := Lib.hid h15'
  have ca := Lib.hid (Chg.of_alloc w1 (.cells #[.slice A1 n1 c1] 26) 0 0)
  have D2 := Lib.hid (BoxAt.new w1 (.slice A1 n1 c1) 26 rfl)
  have K2 := Lib.hid (B1.trans (ca.out.to_below.mono B1.size))
  have RD2 := Lib.hid (rd1.still ca.out)
  generalize hlo1 : w.heap.size = lo1 at RD2
  generalize hhi1 : w1.heap.size = hi1 at RD2
  clear hlo1 hhi1 rd1 B1 h15' hb h
  have pd := D2.out.c
  have hl0 := Lib.hid (fun j (_ : j < n1) => (show (zss.getD j []).length ≤ 1048576 by have := h15.out j; omega))
  go_wp2_with fail
  generalize w1.alloc (.cells #[.slice A1 n1 c1] 26) = w2 at ca D2 K2 RD2 pd
  refine (impl_GroupsOf A1 n1 c1 s zss lo1 hi1 w2 RD2.out).mono ?_
  rintro e w3 ⟨G, cg, rfl, _, og, ch3⟩
  have D3 := Lib.hid (D2.out.still ch3)
  have K3 := Lib.hid (K2.out.trans (ch3.to_below.mono K2.out.size))
  have RD3 := Lib.hid (RD2.out.still ch3)
  have OG3 := Lib.hid og.rd
  generalize hlo2 : w2.heap.size = lo2 at OG3
  generalize hhi2 : w3.heap.size = hi2 at OG3
  have pd3 := D3.out.c
  clear hlo2 hhi2 og ch3 D2 K2 RD2 pd ca
  go_wp2_with fail
  refine (spec_GroupsOf A1 n1 c1 s zss lo1 hi1 w3 RD3.out (by omega) hl0.out).mono ?_
  rintro e w5 ⟨_, _, rfl, _, _, ch5⟩
  have D5 := Lib.hid (D3.out.still ch5)
  have K5 := Lib.hid (K3.out.trans (ch5.to_below.mono K3.out.size))
  have RD5 := Lib.hid (RD3.out.still ch5)
  have OG5 := Lib.hid (OG3.out.still ch5)
  clear ch5 D3 K3 RD3 OG3 pd3
  by_cases hE : grpE zss s = 0
  · obtain ⟨hd, hi3⟩ := grpE_zero hE
    obtain ⟨t, rfl, ht⟩ : ∃ t : Nat, s = (t : Int) ∧ t < 4 := by simp [inB] at hi3; exact ⟨s.toNat, by omega, by omega⟩
    obtain ⟨hz4, hrows, hnd⟩ := (deal_iff zss).1 hd
    obtain rfl : n1 = 4 := by rw [← RD5.out.1]; exact hz4
    have hV : grpV zss (t : Int) = runsTo (holderF zss) (t : Int) 4 := by simp [grpV, hd, hi3]
    have hcnt := runsTo_count (holderF zss) (t : Int) 4
    have HRL : Hid (∀ i, ((runsTo (holderF zss) (t : Int) 4).getD i []).length ≤ 13) := getD_len fun r hr => runsTo_row hr
    have HEQ : Hid (∀ i, i < (runsTo (holderF zss) (t : Int) 4).length → ∀ x ∈ (runsTo (holderF zss) (t : Int) 4).getD i [], eqcV zss x = (runsTo (holderF zss) (t : Int) 4).getD i [] ∧ eqcE zss x = 0) := fun i hi x hx => by
      have hm : (runsTo (holderF zss) (t : Int) 4).getD i [] ∈ runsTo (holderF zss) (t : Int) 4 := by rw [getD_row hi]; exact List.getElem_mem _
      obtain ⟨q, _, hq⟩ := mem_runsTo hm
      have hg := run_grp (holderF zss) (s := (t : Int)) (by omega) q hq hx
      have hp : holderF zss x = (t : Int) := by have := (runs_sub _ hq hx).2; simpa using this
      have hp0 : 0 ≤ holderF zss x := by omega
      rw [← hg]
      exact ⟨by simp [eqcV, hd, hp0], by simp [eqcE, hd, hp0]⟩
    have HFL := Lib.hid (runs_hand hd ht)
    have hrel : relV zss = relRows zss := by simp [relV, hd]
    have HR4 : Hid ((relV zss).length = 4) := by show _ = _; rw [hrel]; exact ((deal_iff _).1 (rel_deal hd)).1
    have HE2 : Hid (grpE (relV zss) (t : Int) = 0) := by show _ = _; rw [hrel]; simp [grpE, rel_deal hd, hi3]
    have hV2 : grpV (relV zss) (t : Int) = (runsTo (holderF zss) (t : Int) 4).map (List.map (relF (holderF zss))) := by rw [hrel, ← rel_runs hd]; simp [grpV, rel_deal hd, hi3]
    obtain ⟨R2, hR2⟩ : ∃ R2, grpV (relV zss) (t : Int) = R2 := ⟨_, rfl⟩
    have HL2 : R2.length = (runsTo (holderF zss) (t : Int) 4).length := by rw [← hR2, hV2, List.length_map]
    have HL3 : Hid (∀ i, (R2.getD i []).length = ((runsTo (holderF zss) (t : Int) 4).getD i []).length) := fun i => by
      rw [← hR2, hV2]
      by_cases hi : i < (runsTo (holderF zss) (t : Int) 4).length
      · rw [getD_row (by simpa using hi), getD_row hi]; simp
      · rw [List.getD_eq_getElem?_getD, List.getD_eq_getElem?_getD, List.getElem?_eq_none (by simpa using hi), List.getElem?_eq_none (by omega)]
    have HR2 := Lib.hid hR2
    have htl : (t : Int) < 4 := by omega
    have ht0 : (0 : Int) ≤ (t : Int) := by omega
    rw [hE, hV] 
    rw [hV] at OG5
    generalize runsTo (holderF zss) (t : Int) 4 = gs at hcnt HRL HEQ HFL HL2 HL3 OG5 ⊢
    have HDD := Lib.hid hd
    have HT := Lib.hid ht
    clear hV hE hd hi3 hz4 hrows hnd hrel hV2 hR2 h15 s0 s1 hn1
    have hmade := Lib.hid (OwnV.made w5 (Nat.le_refl _))
    have hb0 := Lib.hid ((Below.refl w5.heap.size w5).alloc (Nat.le_refl _) (.cells #[] 2))
    go_wp2_with fail
    go_loopw [9, 10] (fun v i wr => ∃ k : Nat, k ≤ gs.length ∧ i = .int .i64 k ∧ OwnV wr w5.heap.size v ((gs.take k).flatten) ∧ Below w5.heap.size w5 wr) (fun _ i _ => gs.length - (intOf i).toNat)
    case atStart => exact ⟨0, Nat.zero_le _, rfl, hmade.out, hb0.out⟩
    case round =>
      clear hmade hb0
      obtain ⟨k, hk, rfl, ho, hb⟩ := hrel
      by_cases hlt : k < gs.length
      · have hkl : (k : Int) < (gs.length : Int) := by omega
        have cw := Lib.hid (Chg.of_below hb 0 0)
        obtain ⟨b, off, B, C, rfl, _, _, hcell, hrd, _, hnil⟩ := (OG5.out.still cw.out).at_ hlt
        have HS := Lib.hid (flat_take hlt)
        have h13 := HRL.out k
        have hEq := Lib.hid (HEQ.out k hlt)
        have hflen : ((gs.take k).flatten).length ≤ 1000 := by
          have h1 := flat_bound HRL.out k hk
          omega
        have HCell := Lib.hid hcell
        have HRd := Lib.hid hrd
        have hzr := hb.size
        generalize gs.getD k [] = row at hcell hrd HS h13 hEq HCell HRd
        generalize (gs.take k).flatten = fl at ho HS hflen
        obtain ⟨wo, hwo⟩ : ∃ wo, wo = wr := ⟨wr, rfl⟩
        subst hwo
        have pd := (D5.out.still cw.out).c
        go_wp2_with fail
        go_loopw [11] (fun x wr => ∃ j : Nat, j ≤ row.length ∧ x = .int .i64 j ∧ Chg wo wr 0 0) (fun x _ => row.length - (intOf x).toNat)
        case atStart => exact ⟨0, Nat.zero_le _, rfl, Chg.refl _ _ _⟩
        case round =>
          clear hcell hrd pd
          obtain ⟨j, hj, rfl, hc⟩ := hrel
          have HC := Lib.hid hc
          have q1 := box_still HCell.out hc
          by_cases hjl : j < row.length
          · have hjI : (j : Int) < (row.length : Int) := by omega
            have q0 := ((D5.out.still cw.out).still hc).c
            obtain ⟨rb, ro, rfl, _, _, hrc⟩ := (HRd.out.still hc).2 (by omega)
            have q2 := hrc j hjl
            obtain ⟨e1, e2⟩ := hEq.out (row.getD j 0) (by rw [getD_at _ _ hjl]; exact List.getElem_mem _)
            generalize row.getD j 0 = x at q2 e1 e2
            have hCall := Lib.hid (fun W (q : RdR W lo1 hi1 A1 4 zss) => impl_EquivalentCards A1 4 c1 x zss lo1 hi1 W q)
            rw [e1, e2] at hCall
            have dr := Lib.hid (Chg.drewN wr 1 0 0)
            clear hrc e1 e2 hc
            go_wp2_with fail
            go_region_held3 (fun W => W.cell? ⟨w1.heap.size, 0, none⟩ = some (.slice A1 4 c1) ∧ W.cell? ⟨b, off + k, none⟩ = some (.slice (some ⟨rb, ro, none⟩) row.length C) ∧ W.cell? ⟨rb, ro + j, none⟩ = some (.int .i64 x)) (first | exact ⟨q0, q1, q2⟩ | exact ⟨q07, q17, q27⟩) (first | (go_at_call 27; refine (hCall.out _ (((RD5.out.still cw.out).still HC.out).still dr.out)).mono ?_; rintro e w7 ⟨C7, c7, rfl, _, _, o7, ch7⟩; have d7 := Lib.hid (dr.out.trans ch7); have q07 := box_still q0 d7.out; have q17 := box_still q1 d7.out; have q27 := box_still q2 d7.out))
            all_goals
              have HO7 := Lib.hid o7.rd
              have HC7 := Lib.hid (HC.out.trans d7.out)
              clear o7 ch7 q0 q1 q2 q07 q27 d7 HC
              go_wp2_with fail
              refine (likeInts _ _ row.length row.length _ _ row _ _ _ _ _ HO7.out (HRd.out.still HC7.out) (by omega)).mono ?_
              rintro e w8 ⟨rfl, c8⟩
              have HC8 := HC7.out.trans c8
              clear c8 q17
              go_wp2_with fail
              go_roundw
              case rel => exact ⟨j + 1, by omega, by go_num, HC8⟩
              case measure => simp [intOf]; omega
          · obtain rfl : j = row.length := by omega
            have ho2 := ho.still hc
            have hb2 := hb.trans (hc.to_below.mono hzr)
            have hz2 := Nat.le_trans hzr hc.size
            have hr2 := HRd.out.still hc
            have hl2 : fl.length + row.length ≤ 1048576 := by omega
            go_wp2_with (at_builtin; refine wpList_cat rfl (.tmp 83) (.tmp 87) rfl w5.heap.size _ fl (by rfl) ho2 _ _ B row.length C row (by rfl) hnil hr2 hl2 hz2 ?_; intro v3 w3' o3 b3)
            rw [← HS.out] at o3
            go_roundw
            case rel => exact ⟨k + 1, by omega, by go_num, o3, hb2.trans b3⟩
            case measure => simp [intOf]; omega
      · obtain rfl : k = gs.length := by omega
        rw [List.take_length, HFL.out] at ho
        obtain ⟨row, hrow⟩ : ∃ row, zss.getD t [] = row := ⟨_, rfl⟩
        rw [hrow] at ho
        have HROW := Lib.hid hrow
        clear hrow
        obtain ⟨V, cv, rfl, _, _, ov⟩ := ho.form
        have cw := Lib.hid (Chg.of_below hb 0 0)
        have hAll := Lib.hid ov.rd
        have K6 := Lib.hid (K5.out.trans (hb.mono K5.out.size))
        have D6 := Lib.hid (D5.out.still cw.out)
        have RD6 := Lib.hid (RD5.out.still cw.out)
        have OG6 := Lib.hid (OG5.out.still cw.out)
        have pd := D6.out.c
        generalize hlo6 : w5.heap.size = lo6 at hAll
        generalize hhi6 : wr.heap.size = hi6 at hAll
        clear hlo6 hhi6 ho hb ov cw D5 RD5 OG5 K5 HEQ HFL
        obtain ⟨w6, hw6⟩ : ∃ w6, w6 = wr := ⟨wr, rfl⟩
        subst hw6
        go_wp2_with fail
        refine (spec_RelativeDeal A1 4 c1 zss lo1 hi1 _ RD6.out (by omega) hl0.out).mono ?_
        rintro e w7 ⟨X, cx, rfl, _, ox, ch7⟩
        rw [HR4.out] at ox ⊢
        have hA7 := Lib.hid (hAll.out.still ch7)
        have K7 := Lib.hid (K6.out.trans (ch7.to_below.mono K6.out.size))
        have D7 := Lib.hid (D6.out.still ch7)
        have RD7 := Lib.hid (RD6.out.still ch7)
        have OG7 := Lib.hid (OG6.out.still ch7)
        clear ch7 hAll K6 D6 RD6 OG6 pd
        go_wp2_with fail
        refine (impl_GroupsOf X 4 cx (t : Int) (relV zss) _ _ _ ox.rd).mono ?_
        rw [HR2.out, HE2.out]
        rintro e w8 ⟨H, cH, rfl, _, oh, ch8⟩
        rw [HL2] at oh ⊢
        have hA8 := Lib.hid (hA7.out.still ch8)
        have K8 := Lib.hid (K7.out.trans (ch8.to_below.mono K7.out.size))
        have D8 := Lib.hid (D7.out.still ch8)
        have RD8 := Lib.hid (RD7.out.still ch8)
        have OG8 := Lib.hid (OG7.out.still ch8)
        have OH8 := Lib.hid oh.rd
        clear ch8 hA7 K7 D7 RD7 OG7 oh ox
        generalize hlo8 : w7.heap.size = lo8 at OH8
        generalize hhi8 : w8.heap.size = hi8 at OH8
        clear hlo8 hhi8
        go_wp2_with fail
        go_loopw [16] (fun i wr => ∃ k : Nat, k ≤ gs.length ∧ i = .int .i64 k ∧ Chg w8 wr 0 0) (fun i _ => gs.length - (intOf i).toNat)
        case atStart => exact ⟨0, Nat.zero_le _, rfl, Chg.refl _ _ _⟩
        case round =>
          obtain ⟨k, hk, rfl, hc⟩ := hrel
          by_cases hlt : k < gs.length
          · have hkl : (k : Int) < (gs.length : Int) := by omega
            obtain ⟨b, off, B, C, rfl, _, _, q1, _, _, _⟩ := (OG8.out.still hc).at_ hlt
            obtain ⟨b', off', B', C', rfl, _, _, q2, _, _, _⟩ := (OH8.out.still hc).at_ hlt
            rw [HL3.out] at q2
            generalize (gs.getD k []).length = m at q1 q2
            go_wp2_with fail
            go_quiet (fail)
            go_wp2_with fail
            go_roundw
            case rel => exact ⟨k + 1, by omega, by go_num, hc.trans (Chg.drewN _ _ 0 0)⟩
            case measure => simp [intOf]; omega
          · have hkl : ¬ (k : Int) < (gs.length : Int) := by omega
            have pd := (D8.out.still hc).c
            obtain ⟨b, off, B, C, rfl, _, _, q1, hrd, _, _⟩ := (RD8.out.still hc).at_ HT.out
            have hl13 := hl0.out t HT.out
            rw [HROW.out] at q1 hrd hl13
            have KF := Lib.hid (K8.out.trans (hc.to_below.mono K8.out.size))
            have HRd := Lib.hid hrd
            have HA := Lib.hid (hA8.out.still hc)
            clear hrd hc
            go_wp2_with fail
            refine (likeInts _ _ row.length row.length _ _ row _ _ _ _ _ HA.out HRd.out hl13).mono ?_
            rintro e w9 ⟨rfl, c9⟩
            go_wp2_with fail
            go_ret
            exact ⟨rfl, KF.out.trans (c9.to_below.mono KF.out.size)⟩
  · have hV := grpV_none hE
    have hEb : (grpE zss s == 0) = false := by simpa using hE
    have hEn : (grpE zss s != 0) = true := by simpa using hE
    have hself : (grpE zss s != grpE zss s) = false := by simp
    rw [hV]
    generalize grpE zss s = k at hEb hEn hself
    clear hV hE
    go_wp2_with fail
    go_ret
    exact ⟨rfl, K5.out⟩

end Go.Proofs.Ytacdhkhkifoeaaa.Lib1
