/- Chapter 5: the model's CanonicalDeal. -/
import Derived.Test.YteojdlacdnfgiaaCanS5
import Derived.Test.YteojdlacdnfgiaaCdI5
import Derived.Test.YteojdlacdnfgiaaMadeS5
namespace Go.Proofs.Yteojdlacdnfgiaa.Lib1
open Go.RowKit
set_option maxRecDepth 100000

theorem deal_row13 {zss : List (List Int)} (hd : dealB zss = true) (j : Nat) (hj : j < 4) : (zss.getD j []).length ≤ 13 := ((hand_iff _).1 (deal_hand hd hj)).1
set_option maxHeartbeats 4000000 in
/-- spec.l05Canonical -/
theorem l05Canonical (A : Option Addr) (c : Nat) (strain : Int) (zss : List (List Int)) (lo hi : Nat) (w : World) (h : RdR w lo hi A 4 zss) (hd : dealB zss = true) (hs : inB strain 0 4 = true) :
    Calls Try.prog 74 #[.agg #[.slice A 4 c], .int .i64 strain] w (fun e w' => ∃ A1 c1, e = .returned (.agg #[.slice A1 4 c1]) ∧ 4 ≤ c1 ∧ OwnR w' w.heap.size w'.heap.size A1 4 (canL zss strain) ∧ Chg w w' 0 0) := by
  have hz0 : Hid ((w.alloc (.cells #[.slice A 4 c] 36)).heap.size = w.heap.size + 1) := by show _ = _; simp
  have ca := Lib.hid ((Chg.of_alloc w (.cells #[.slice A 4 c] 36) 0 0).trans (Chg.of_alloc (w.alloc (.cells #[.slice A 4 c] 36)) (.cells #[.slice none 0 0] 36) 0 0))
  have D0 := Lib.hid ((BoxAt.new w (.slice A 4 c) 36 rfl).alloc (.cells #[.slice none 0 0] 36))
  have D1 := Lib.hid (BoxAt.new (w.alloc (.cells #[.slice A 4 c] 36)) (.slice none 0 0) 36 hz0.out)
  have h4 := Lib.hid h.1
  have HD := Lib.hid hd
  have HS := Lib.hid hs
  have HHL := Lib.hid (HL.of_deal hd)
  have hmr : Hid (madeRows (listsTo (holderF zss) 4) = relRows zss) := made_rel hd
  have hr4 : Hid ((relRows zss).length = 4) := by show _ = _; rw [relRows_length]; exact h4.out
  have HR := Lib.hid (rel_deal hd)
  have hlen := Lib.hid (fun j (hj : j < 4) => (show (zss.getD j []).length ≤ 1048576 by have := deal_row13 hd j hj; omega))
  clear hd hs
  go_enter Try.func74, Try.ntmps74
  go_wp2_with fail
  generalize (w.alloc (.cells #[.slice A 4 c] 36)).alloc (.cells #[.slice none 0 0] 36) = W0 at ca D0 D1 ⊢
  have hb0 := D0.out.c
  go_wp2_with fail
  refine (l05Lists A 4 c zss lo hi _ (h.still ca.out) (by omega) hlen.out).mono ?_
  rintro e w1 ⟨v, rfl, o1, b1⟩
  have k1 := Lib.hid (ca.out.trans (Chg.of_below b1 0 0))
  have E1 := Lib.hid (D1.out.still (Chg.of_below b1 0 0))
  obtain ⟨A2, c2, rfl, hc2, own2⟩ := o1.own
  rw [listsTo_length] at own2
  have hlt : (listsTo (holderF zss) 4).length = 4 := listsTo_length _ _
  rw [hlt]
  clear hlt hc2 o1 b1 hb0 D0 D1
  go_wp2_with fail
  refine (l05Made A2 c2 _ _ _ _ own2.rd HHL.out).mono ?_
  rintro e w2 ⟨Ar, cr, rfl, hcr, or, ch2⟩
  rw [hmr.out, hr4.out] at or hcr
  rw [hmr.out, hr4.out]
  clear own2
  go_wp2_with fail
  have k3 := Lib.hid ((Chg.of_alloc w2 (.cells #[.slice Ar 4 cr] 36) 0 0).trans (Chg.of_alloc _ (.cells #[.slice Ar 4 cr] 36) 0 0))
  have G5 := Lib.hid ((BoxAt.new w2 (.slice Ar 4 cr) 36 rfl).alloc (.cells #[.slice Ar 4 cr] 36))
  have G6 := Lib.hid (BoxAt.new (w2.alloc (.cells #[.slice Ar 4 cr] 36)) (.slice Ar 4 cr) 36 (g := w2.heap.size + 1) (by simp))
  generalize (w2.alloc (.cells #[.slice Ar 4 cr] 36)).alloc (.cells #[.slice Ar 4 cr] 36) = w3 at k3 G5 G6 ⊢
  refine (l05Orders strain _ HS.out).mono ?_
  rintro e w4 ⟨v, rfl, o4, b4⟩
  have k34 := Lib.hid (k3.out.trans (Chg.of_below b4 0 0))
  have zg : w.heap.size + 1 < w2.heap.size := Nat.lt_of_lt_of_le E1.out.lt ch2.size
  have zw1 := k1.out.size
  have k24 := Lib.hid ((k1.out.trans ch2).trans k34.out)
  have hDr : DealIn w w2.heap.size Ar cr (relRows zss) w4 := ⟨G5.out.still (Chg.of_below b4 0 0), hcr, (or.still k34.out).more zw1 k34.out.size⟩
  have hDs : DealIn w (w2.heap.size + 1) Ar cr (bestL (fun to => permD to (relRows zss)) (relRows zss) ((ordS strain).take 0)) w4 := ⟨G6.out.still (Chg.of_below b4 0 0), hcr, hDr.2.2⟩
  have hbx : BoxAt w4 (w.heap.size + 1) (.slice none 0 0) 36 := (E1.out.still ch2).still k34.out
  have HBD := Lib.hid (fun (os : List (List Int)) (hos : ∀ to ∈ os, okO strain to = true) => best_mem HD.out HS.out os hos)
  have HCL : Hid (canL zss strain = bestL (fun to => permD to (relRows zss)) (relRows zss) (ordS strain)) := rfl
  have HOK := Lib.hid (fun to => (mem_ordS strain to).1)
  have HRL := Lib.hid (fun j (hj : j < 4) => deal_row13 HR.out j hj)
  obtain ⟨Ao, co, rfl, hco, own4⟩ := o4.own
  have own4' := own4.more (lo' := w.heap.size) (Nat.le_trans (Nat.le_trans k1.out.size ch2.size) k3.out.size) (Nat.le_refl _)
  have hol : (ordS strain).length ≤ 1048576 := by have := ordTo_len strain 256; unfold ordS; omega
  generalize relRows zss = r at or hDr hDs HBD HCL hr4 HR HRL
  generalize ordS strain = os at own4' HCL HOK hDs hol ⊢
  clear or G5 G6 o4 b4 hco own4 h hmr HHL k34
  go_wp2_with fail
  go_loopw [8] (fun i wr => ∃ k : Nat, k ≤ os.length ∧ i = .int .i64 k ∧ Hid (BoxAt wr (w.heap.size + 1) (.slice none 0 0) 36) ∧ Hid (DealIn w w2.heap.size Ar cr r wr) ∧ Hid (∃ A c, DealIn w (w2.heap.size + 1) A c (bestL (fun to => permD to r) r (os.take k)) wr) ∧ Hid (OwnR wr w.heap.size wr.heap.size Ao os.length os) ∧ Hid (Below w.heap.size w wr)) (fun i _ => os.length - (intOf i).toNat)
  case atStart => exact ⟨0, Nat.zero_le _, rfl, hbx, hDr, ⟨Ar, cr, hDs⟩, own4', k24.out.to_below⟩
  case round =>
    clear hDr hDs hbx own4' k24
    obtain ⟨k, hk, rfl, hb1, hR, hSx, hO, hB⟩ := hrel
    obtain ⟨A5, c5, hS⟩ := hSx.out
    have HS5 := Lib.hid hS
    clear hSx hS
    by_cases hlt : k < os.length
    · have hkI : (k : Int) < (os.length : Int) := by omega
      obtain ⟨bo, off, Bq, Cx, eA, _, _, hcw, hrw, _, _⟩ := hO.out.rd.at_ hlt
      have hmem : os.getD k [] ∈ os := by rw [getD_row hlt]; exact List.getElem_mem _
      have hox := okO_order (HOK.out _ hmem)
      have hx4 : Hid ((os.getD k []).length = 4) := (order_range hox).1
      have htk := Lib.hid (take_row hlt)
      have hbd : Hid (dealB (bestL (fun to => permD to r) r (os.take k)) = true) := by
        obtain ⟨to, ht, e⟩ := HBD.out (os.take k) (fun to hto => HOK.out to (List.mem_of_mem_take hto))
        show _ = _
        rw [e]; exact permD_deal (okO_order ht) HR.out
      have hbl : Hid (∀ j, j < 4 → ((bestL (fun to => permD to r) r (os.take k)).getD j []).length = (r.getD j []).length) := fun j hj => by
        obtain ⟨to, ht, e⟩ := HBD.out (os.take k) (fun to hto => HOK.out to (List.mem_of_mem_take hto))
        rw [e, permD_row]
      have hstep : Hid (bestL (fun to => permD to r) r (os.take (k + 1)) = if lessB (permD (os.getD k []) r) (bestL (fun to => permD to r) r (os.take k)) then permD (os.getD k []) r else bestL (fun to => permD to r) r (os.take k)) := by
        show _ = _
        rw [htk.out, bestL_snoc]
      have hpd := Lib.hid (permD_deal hox HR.out)
      have hV : Hid (permV r (os.getD k []) = permD (os.getD k []) r) := permV_is hox HR.out
      have hE : Hid (permE r (os.getD k []) = 0) := permE_is hox HR.out
      have hp4 : Hid ((permD (os.getD k []) r).length = 4) := by show _ = _; rw [permD_length, hr4.out]
      have hpl := Lib.hid (fun j (_ : j < 4) => permD_row (os.getD k []) r j)
      have dr := Lib.hid (show Chg wr wr.drew 0 0 from Chg.drewN wr 1 0 0)
      have KC := Lib.hid hcw
      rw [hx4.out] at hrw KC
      have hper := Lib.hid (fun (V : World) (kk : Chg wr V 0 0) => (show Calls Try.prog 29 #[.agg #[.slice Ar 4 cr], .slice Bq 4 Cx] V (fun e w' => ∃ A1 c1, e = .returned (.tuple #[.agg #[.slice A1 4 c1], .int .i64 0]) ∧ 4 ≤ c1 ∧ OwnR w' V.heap.size w'.heap.size A1 4 (permD (os.getD k []) r) ∧ Chg V w' 0 0) by
        have := spec_PermuteSuits Ar 4 cr r _ _ Bq 4 Cx (os.getD k []) _ _ V (hR.out.2.2.still kk).rd (hrw.still kk) (by omega) (by omega) (fun j hj => by have := HRL.out j hj; omega)
        rw [hV.out, hE.out] at this
        refine this.mono ?_
        rintro e w' ⟨A1, c1, e1, h1, h2, h3⟩
        rw [hp4.out] at e1 h1 h2
        exact ⟨A1, c1, e1, h1, h2, h3⟩))
      have hq5 := (show BoxAt wr.drew _ _ _ from hR.out.1).c
      have hqo : wr.drew.cell? ⟨bo, off + k, none⟩ = some (.slice Bq 4 Cx) := KC.out
      have HEA := Lib.hid eA
      subst eA
      clear hcw hrw hmem hox htk hV hE hp4 hx4
      generalize bestL (fun to => permD to r) r (os.take k) = best at HS5 hbd hbl hstep
      generalize permD (os.getD k []) r = px at hstep hpd hper hpl
      go_wp2_with fail
      refine wp_region_held_drew (S := fun V => V.cell? ⟨w2.heap.size, 0, none⟩ = some (.slice Ar 4 cr) ∧ V.cell? ⟨bo, off + k, none⟩ = some (.slice Bq 4 Cx)) (by kernel_rfl) ⟨hq5, hqo⟩ (fun hHeld => ?_)
      refine wpAnyH_take (i := 0) (v := .agg #[.slice Ar 4 cr]) rfl (by kernel_rfl) (by kernel_rfl) (by kernel_rfl) (fun _ _ _ h => h) (.inl ⟨by rfl, fun V hV => by have hV1 := hV.1; go_simp⟩) hHeld ?_
      refine wpAnyH_take (i := 1) (v := .slice (some ⟨bo, off, none⟩) os.length co) rfl (by kernel_rfl) (by kernel_rfl) (by kernel_rfl) (fun _ _ _ h => h) (.inl ⟨by rfl, fun V hV => by go_simp⟩) hHeld ?_
      refine wpAnyH_take (i := 2) (v := .int .i64 (k : Int)) rfl (by kernel_rfl) (by kernel_rfl) (by kernel_rfl) (fun _ _ _ h => h) (.inl ⟨by rfl, fun V hV => by go_simp⟩) hHeld ?_
      refine wpAnyH_take (i := 3) (v := .pointer (some ⟨bo, off + k, none⟩)) rfl (by kernel_rfl) (by kernel_rfl) (by kernel_rfl) (fun _ _ _ h => h) (.inl ⟨by rfl, fun V hV => by go_simp⟩) hHeld ?_
      refine wpAnyH_take (i := 4) (v := .slice Bq 4 Cx) rfl (by kernel_rfl) (by kernel_rfl) (by kernel_rfl) (fun _ _ _ h => h) (.inl ⟨by rfl, fun V hV => by have hV2 := hV.2; go_simp⟩) hHeld ?_
      refine wpAnyH_ready (rs := [5, 9]) (by kernel_rfl) (by simp) (AllReadyH.cons (i := 5) rfl (fun K' hK' => ?r2) (AllReadyH.cons (i := 9) rfl (fun K' hK' => ?r6) AllReadyH.nil))
      case' r2 =>
        go_simp
        refine (hper.out _ dr.out).mono ?_
        rintro e w1' ⟨A1, c1', rfl, hc1, o1, ch1⟩
        have q1 := And.intro (box_still hq5 ch1) (box_still hqo ch1)
        refine hK'.out _ _ q1 (fun hHeld => ?_)
        clear hK'
        refine wpAnyH_take (i := 6) (v := .tuple #[.agg #[.slice A1 4 c1'], .int .i64 0]) rfl (by kernel_rfl) (by kernel_rfl) (by kernel_rfl) (fun _ _ _ h => h) (.inl ⟨by rfl, fun V hV => by go_simp⟩) hHeld ?_
        refine wpAnyH_take (i := 7) (v := .agg #[.slice A1 4 c1']) rfl (by kernel_rfl) (by kernel_rfl) (by kernel_rfl) (fun _ _ _ h => h) (.inl ⟨by rfl, fun V hV => by go_simp⟩) hHeld ?_
        refine wpAnyH_take (i := 8) (v := .int .i64 0) rfl (by kernel_rfl) (by kernel_rfl) (by kernel_rfl) (fun _ _ _ h => h) (.inl ⟨by rfl, fun V hV => by go_simp⟩) hHeld ?_
        have Bx := Lib.hid (BoxAt.new w1' (.slice none 0 0) 36 rfl)
        have kV := Lib.hid ((dr.out.trans ch1).trans (Chg.of_alloc w1' (.cells #[.slice none 0 0] 36) 0 0))
        have oV := Lib.hid ((o1.still (Chg.of_alloc w1' (.cells #[.slice none 0 0] 36) 0 0)).more (show w.heap.size ≤ wr.drew.heap.size from hB.out.size) (Chg.of_alloc w1' (.cells #[.slice none 0 0] 36) 0 0).size)
        have q3 := And.intro (box_still q1.1 (Chg.of_alloc w1' (.cells #[.slice none 0 0] 36) 0 0)) (box_still q1.2 (Chg.of_alloc w1' (.cells #[.slice none 0 0] 36) 0 0))
        refine wpAnyH_ready (rs := [9]) (by kernel_rfl) (by simp) (AllReadyH.cons (i := 9) rfl (fun K' hK' => ?_) AllReadyH.nil)
        go_simp
        refine hK'.out _ _ q3 (fun hHeld => ?_)
        clear hK'
        obtain ⟨gx, hgx⟩ : ∃ gx, gx = w1'.heap.size := ⟨_, rfl⟩
        have zx : wr.heap.size ≤ gx := by rw [hgx]; exact ch1.size
        rw [← hgx] at Bx ⊢
        clear hgx o1 ch1 q1
        generalize w1'.alloc (.cells #[.slice none 0 0] 36) = V at Bx kV oV q3 ⊢
      case' r6 =>
        go_simp
        have BN := BoxAt.new wr.drew (.slice none 0 0) 36 (g := wr.heap.size) rfl
        have kN := dr.out.trans (Chg.of_alloc wr.drew (.cells #[.slice none 0 0] 36) 0 0)
        have q1 := And.intro (box_still hq5 (Chg.of_alloc wr.drew (.cells #[.slice none 0 0] 36) 0 0)) (box_still hqo (Chg.of_alloc wr.drew (.cells #[.slice none 0 0] 36) 0 0))
        refine hK'.out _ _ q1 (fun hHeld => ?_)
        clear hK'
        refine wpAnyH_ready (rs := [5]) (by kernel_rfl) (by simp) (AllReadyH.cons (i := 5) rfl (fun K' hK' => ?_) AllReadyH.nil)
        go_simp
        refine (hper.out _ kN).mono ?_
        rintro e V ⟨A1, c1', rfl, hc1, o1, ch1⟩
        have q3 := And.intro (box_still q1.1 ch1) (box_still q1.2 ch1)
        refine hK'.out _ _ q3 (fun hHeld => ?_)
        clear hK'
        refine wpAnyH_take (i := 6) (v := .tuple #[.agg #[.slice A1 4 c1'], .int .i64 0]) rfl (by kernel_rfl) (by kernel_rfl) (by kernel_rfl) (fun _ _ _ h => h) (.inl ⟨by rfl, fun V hV => by go_simp⟩) hHeld ?_
        refine wpAnyH_take (i := 7) (v := .agg #[.slice A1 4 c1']) rfl (by kernel_rfl) (by kernel_rfl) (by kernel_rfl) (fun _ _ _ h => h) (.inl ⟨by rfl, fun V hV => by go_simp⟩) hHeld ?_
        refine wpAnyH_take (i := 8) (v := .int .i64 0) rfl (by kernel_rfl) (by kernel_rfl) (by kernel_rfl) (fun _ _ _ h => h) (.inl ⟨by rfl, fun V hV => by go_simp⟩) hHeld ?_
        have Bx := Lib.hid (BN.still ch1)
        have kV := Lib.hid (kN.trans ch1)
        have oV := Lib.hid (o1.more (show w.heap.size ≤ _ from Nat.le_trans hB.out.size kN.size) (Nat.le_refl _))
        obtain ⟨gx, hgx⟩ : ∃ gx, gx = wr.heap.size := ⟨_, rfl⟩
        have zx : wr.heap.size ≤ gx := by rw [hgx]; exact Nat.le_refl _
        rw [← hgx] at Bx ⊢
        clear hgx o1 ch1 q1 BN kN
      all_goals
        have f7 := Bx.out.f
        have c7 := Bx.out.c
        have Bx5 := Lib.hid (Bx.out.put (.slice A1 4 c1'))
        have k5 := Lib.hid (kV.out.cell (g := gx) (i := 0) (v := .slice A1 4 c1') zx)
        have o5 := Lib.hid (((oV.out.store (u := .slice A1 4 c1') Bx.out)).more (Nat.le_refl _) (show V.heap.size ≤ (V.setCell ⟨gx, 0, none⟩ (.slice A1 4 c1')).heap.size by simp [World.setCell]))
        have q5 : (V.setCell ⟨gx, 0, none⟩ (.slice A1 4 c1')).cell? ⟨w2.heap.size, 0, none⟩ = some (.slice Ar 4 cr) ∧ (V.setCell ⟨gx, 0, none⟩ (.slice A1 4 c1')).cell? ⟨bo, off + k, none⟩ = some (.slice Bq 4 Cx) := ⟨(hR.out.1.still k5.out).c, box_still KC.out k5.out⟩
        refine wpAnyH_ready (rs := [10]) (by kernel_rfl) (by simp) (AllReadyH.cons (i := 10) rfl (fun K' hK' => ?_) AllReadyH.nil)
        go_simp
        refine hK'.out _ _ q5 (fun hHeld => ?_)
        clear hK'
        clear f7 c7 Bx kV oV q3
        generalize V.setCell ⟨gx, 0, none⟩ (.slice A1 4 c1') = W5 at Bx5 k5 o5 q5 ⊢
        refine wpAnyH_ready (rs := [11]) (by kernel_rfl) (by simp) (AllReadyH.cons (i := 11) rfl (fun K' hK' => ?_) AllReadyH.nil)
        go_simp
        refine hK'.out _ _ q5 (fun hHeld => ?_)
        clear hK'
        refine wpAnyH_done (by kernel_rfl) ?_ _
        have S5 := HS5.out.still k5.out
        have hls := Lib.hid (l05Less A1 c1' px _ _ A5 c5 best _ _ W5 o5.out.rd S5.2.2.rd (fun j hj => by rw [hpl.out j hj, hbl.out j hj]) (fun j hj => by rw [hpl.out j hj]; have := HRL.out j hj; omega))
        have p9 := Bx5.out.c
        have p7 := S5.1.c
        clear q5 hHeld
        cases hb : lessB px best with
        | true =>
          have HN : Hid (bestL (fun to => permD to r) r (os.take (k + 1)) = px) := by show _ = _; rw [hstep.out, hb]; rfl
          rw [hb] at hls
          clear hb hstep
          go_wp2_with fail
          refine hls.out.mono ?_
          rintro e w6 ⟨rfl, k6⟩
          have p96 := box_still p9 k6
          have s76 := S5.1.still k6
          have p76 := s76.c
          have f76 := s76.f
          have k56 := k5.out.trans k6
          have z5 : ∀ u, w6.heap.size ≤ (w6.setCell ⟨w2.heap.size + 1, 0, none⟩ u).heap.size := fun u => by simp [World.setCell]
          have r1 := Lib.hid ((hb1.out.still k56).set (g := w2.heap.size + 1) (i := 0) (u := .slice A1 4 c1') (by omega))
          have r2 : Hid (DealIn w w2.heap.size Ar cr r (w6.setCell ⟨w2.heap.size + 1, 0, none⟩ (.slice A1 4 c1'))) := ⟨(hR.out.1.still k56).set (by omega), hR.out.2.1, ((hR.out.2.2.still k56).store s76).more (Nat.le_refl _) (Nat.le_trans k56.size (z5 _))⟩
          have r3 : Hid (∃ A c, DealIn w (w2.heap.size + 1) A c (bestL (fun to => permD to r) r (os.take (k + 1))) (w6.setCell ⟨w2.heap.size + 1, 0, none⟩ (.slice A1 4 c1'))) := by
            rw [HN.out]
            exact ⟨A1, c1', s76.put _, hc1, ((o5.out.still k6).store s76).more (Nat.le_refl _) (Nat.le_trans k6.size (z5 _))⟩
          have r4 := Lib.hid (((hO.out.still k56).store (u := .slice A1 4 c1') s76).more (lo' := w.heap.size) (Nat.le_refl _) (Nat.le_trans k56.size (z5 (.slice A1 4 c1'))))
          have r5 := Lib.hid ((hB.out.trans (k56.to_below.mono hB.out.size)).setCell (p := ⟨w2.heap.size + 1, 0, none⟩) (by show w.heap.size ≤ w2.heap.size + 1; omega) (.slice A1 4 c1'))
          clear k56 k6 s76 S5 p7 p9
          go_wp2_with fail
          go_roundw
          case rel => exact ⟨k + 1, by omega, by go_num, r1, r2, r3, r4, r5⟩
          case measure => simp [intOf]; omega
        | false =>
          have HN : Hid (bestL (fun to => permD to r) r (os.take (k + 1)) = best) := by show _ = _; rw [hstep.out, hb]; rfl
          rw [hb] at hls
          clear hb hstep
          go_wp2_with fail
          refine hls.out.mono ?_
          rintro e w6 ⟨rfl, k6⟩
          have k56 := k5.out.trans k6
          have r1 := Lib.hid (hb1.out.still k56)
          have r2 := Lib.hid (hR.out.still k56)
          have r3 : Hid (∃ A c, DealIn w (w2.heap.size + 1) A c (bestL (fun to => permD to r) r (os.take (k + 1))) w6) := by
            rw [HN.out]
            exact ⟨A5, c5, HS5.out.still k56⟩
          have r4 := Lib.hid ((hO.out.still k56).more (lo' := w.heap.size) (Nat.le_refl _) k56.size)
          have r5 := Lib.hid (hB.out.trans (k56.to_below.mono hB.out.size))
          clear k56 k6 S5 p7 p9
          go_wp2_with fail
          go_roundw
          case rel => exact ⟨k + 1, by omega, by go_num, r1, r2, r3, r4, r5⟩
          case measure => simp [intOf]; omega
    · obtain rfl : k = os.length := by omega
      rw [List.take_length] at HS5
      have HO := Lib.hid HS5.out.2.2
      have hcc := Lib.hid HS5.out.2.1
      have p7 := HS5.out.1.c
      have p1 := hb1.out.c
      have f1 := hb1.out.f
      have hret := fun u => hb1.out.ret u
      have O6 := Lib.hid ((HS5.out.2.2.store (u := .slice A5 4 c5) hb1.out).more (lo' := w.heap.size) (Nat.le_refl _) (show wr.heap.size ≤ (wr.setCell ⟨w.heap.size + 1, 0, none⟩ (.slice A5 4 c5)).heap.size by simp [World.setCell]))
      have hBf := Lib.hid (hB.out.setCell (p := ⟨w.heap.size + 1, 0, none⟩) (Nat.le_succ _) (.slice A5 4 c5))
      go_wp2_with fail
      (try simp only [Exit.inBlock, Exit.then])
      refine bodyPost_ret (v := .agg #[.slice A5 4 c5]) (by simp [results, Try.results74, go_sem, hret]; try rfl) rfl ?_
      rw [HCL.out]
      exact ⟨A5, c5, rfl, hcc.out, O6.out, Chg.of_below hBf.out 0 0⟩

set_option maxHeartbeats 1000000 in
/-- spec.CanonicalDeal -/
theorem spec_CanonicalDeal (A : Option Addr) (n c : Nat) (strain : Int) (zss : List (List Int)) (lo hi : Nat) (w : World) (h : RdR w lo hi A n zss) (hl : ∀ j, j < n → (zss.getD j []).length ≤ 1048576) :
    Calls Try.prog 39 #[.agg #[.slice A n c], .int .i64 strain] w (RetDI w (canV zss strain) (canE zss strain)) := by
  have hz0 : Hid ((w.alloc (.cells #[.slice A n c] 36)).heap.size = w.heap.size + 1) := by show _ = _; simp
  have ca := Lib.hid ((Chg.of_alloc w (.cells #[.slice A n c] 36) 0 0).trans (Chg.of_alloc (w.alloc (.cells #[.slice A n c] 36)) (.cells #[.slice none 0 0] 36) 0 0))
  have D0 := Lib.hid ((BoxAt.new w (.slice A n c) 36 rfl).alloc (.cells #[.slice none 0 0] 36))
  have D1 := Lib.hid (BoxAt.new (w.alloc (.cells #[.slice A n c] 36)) (.slice none 0 0) 36 hz0.out)
  go_enter Try.func39, Try.ntmps39
  go_wp2_with fail
  generalize (w.alloc (.cells #[.slice A n c] 36)).alloc (.cells #[.slice none 0 0] 36) = W0 at ca D0 D1 ⊢
  have hb0 := D0.out.c
  go_wp2_with fail
  refine (l03Deal A n c zss lo hi _ (h.still ca.out) hl).mono ?_
  rintro e w1 ⟨rfl, c1⟩
  have k1 := Lib.hid (ca.out.trans c1)
  have E0 := Lib.hid (D0.out.still c1)
  have E1 := Lib.hid (D1.out.still c1)
  clear c1 D0 D1 hb0 hz0
  have p1 := E1.out.c
  have f1 := E1.out.f
  have hret := fun u => E1.out.ret u
  have hcf := Lib.hid (k1.out.cell (g := w.heap.size + 1) (i := 0) (v := .slice none 0 0) (Nat.le_succ _))
  cases hd : dealB zss with
  | false =>
    have hv : Hid (canV zss strain = []) := by show _ = _; simp [canV, hd]
    have he : Hid (canE zss strain = 1) := by show _ = _; simp [canE, hd]
    clear hd
    go_wp2_with fail
    (try simp only [Exit.inBlock, Exit.then])
    refine bodyPost_ret (v := .tuple #[.agg #[.slice none 0 0], .int .i64 1]) (by simp [results, Try.results39, go_sem, hret]; try rfl) rfl ?_
    exact RetDI.of_eq hv.out he.out ⟨none, 0, rfl, Nat.le_refl _, OwnR.none_, hcf.out⟩
  | true =>
    have HD := Lib.hid hd
    have h4 : n = 4 := by rw [← h.1]; exact ((deal_iff zss).1 hd).1
    subst h4
    clear hd
    cases hs : inB strain 0 4 with
    | false =>
      have hv : Hid (canV zss strain = []) := by show _ = _; simp [canV, hs]
      have he : Hid (canE zss strain = 2) := by show _ = _; simp [canE, HD.out, hs]
      have HS := Lib.hid hs
      clear hs
      go_wp2_with fail
      refine (l01In strain 0 4 _).mono ?_
      rintro e w' ⟨rfl, rfl⟩
      rw [HS.out]
      go_wp2_with fail
      (try simp only [Exit.inBlock, Exit.then])
      refine bodyPost_ret (v := .tuple #[.agg #[.slice none 0 0], .int .i64 2]) (by simp [results, Try.results39, go_sem, hret]; try rfl) rfl ?_
      exact RetDI.of_eq hv.out he.out ⟨none, 0, rfl, Nat.le_refl _, OwnR.none_, hcf.out⟩
    | true =>
      have hv : Hid (canV zss strain = canL zss strain) := by show _ = _; simp [canV, HD.out, hs]
      have he : Hid (canE zss strain = 0) := by show _ = _; simp [canE, HD.out, hs]
      have hl4 : Hid ((canV zss strain).length = 4) := by show _ = _; rw [hv.out]; exact ((deal_iff _).1 (can_deal HD.out hs)).1
      have HS := Lib.hid hs
      clear hs p1 f1 hret hcf
      have p0 := E0.out.c
      go_wp2_with fail
      refine (l01In strain 0 4 _).mono ?_
      rintro e w' ⟨rfl, rfl⟩
      rw [HS.out]
      go_wp2_with fail
      refine (l05Canonical A c strain zss lo hi _ (h.still k1.out) HD.out HS.out).mono ?_
      rintro e w3 ⟨A3, c3, rfl, hc3, o3, ch3⟩
      have E3 := E1.out.still ch3
      have p1 := E3.c
      have f1 := E3.f
      have hret := fun u => E3.ret u
      have k3 := k1.out.trans ch3
      have hcf := Lib.hid (k3.cell (g := w.heap.size + 1) (i := 0) (v := .slice A3 4 c3) (Nat.le_succ _))
      have O3 := Lib.hid ((o3.store (u := .slice A3 4 c3) E3).more (lo' := w.heap.size) k1.out.size (show w3.heap.size ≤ (w3.setCell ⟨w.heap.size + 1, 0, none⟩ (.slice A3 4 c3)).heap.size by simp [World.setCell]))
      clear o3 ch3 E3 k3
      go_wp2_with fail
      (try simp only [Exit.inBlock, Exit.then])
      refine bodyPost_ret (v := .tuple #[.agg #[.slice A3 4 c3], .int .i64 0]) (by simp [results, Try.results39, go_sem, hret]; try rfl) rfl ?_
      rw [he.out]
      exact ⟨A3, c3, by rw [hl4.out], by rw [hl4.out]; exact hc3, by rw [hl4.out, hv.out]; exact O3.out, hcf.out⟩

end Go.Proofs.Yteojdlacdnfgiaa.Lib1
