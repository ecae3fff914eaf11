/- Chapter 8, the program: a play of a deal played again, and what is asked of it. (Written by wip/gen8n.py.) -/
import Derived.Test.YteglffbeldlibaaPv8
import Derived.Deep.CutRange
namespace Go.Proofs.Yteglffbeldlibaa.Lib1
open Go.RowKit
set_option maxRecDepth 100000

theorem deal_infoL8 (v : Value) : (Try.prog.info? 26).map (·.size) = some ([v] : List Value).length := by kernel_rfl
theorem bldG8 (c b k : Nat) : Try.prog.built 84 [(0, .pointer (some ⟨c, 0, none⟩)), (1, .slice (some ⟨b, 0, none⟩) 4 k)] = some #[.pointer (some ⟨c, 0, none⟩), .slice (some ⟨b, 0, none⟩) 4 k] := by kernel_rfl
set_option maxHeartbeats 8000000 in
theorem playingOf8 (A' : Option Addr) (n' c' : Nat) (zss : List (List Int)) (st ld : Int) (A : Option Addr) (n c : Nat) (cs : List Int) (w : World) (hD : RdR w 0 w.heap.size A' n' zss) (_ : ∀ j, j < n' → (zss.getD j []).length ≤ 1048576) (h : Rd w 0 w.heap.size A n cs) (hn : n ≤ 1048576) (hcap : n ≤ c) (hnil : A = none → c = 0) :
    Calls Try.prog 66 #[.agg #[.slice A' n' c'], .agg #[.int .i64 st, .int .i64 ld, .slice A n c]] w fun e w' => ∃ v, e = .returned (.tuple #[v, .bool (playB zss st ld cs)]) ∧ Below w.heap.size w w' ∧ (playB zss st ld cs = true → ∃ g, v = .pointer (some ⟨g, 0, none⟩) ∧ Gst w' g w.heap.size zss st ld cs) := by
  have hl := Lib.hid h.1
  have HP := Lib.hid (show playB zss st ld cs = (dealB zss && plainB st ld cs && playTo zss st ld cs n) by unfold playB; rw [hl.out])
  obtain ⟨R, hR⟩ : ∃ R, R = playB zss st ld cs := ⟨_, rfl⟩
  rw [← hR] at HP ⊢
  clear hR
  have HRW := Lib.hid h
  have e1 : (w.alloc (.cells #[.slice A' n' c'] 26)).heap.size = w.heap.size + 1 := by simp
  have c1 := Chg.of_alloc w (.cells #[.slice A' n' c'] 26) 0 0
  have c2 := Chg.of_alloc (w.alloc (.cells #[.slice A' n' c'] 26)) (.cells #[.int .i64 st, .int .i64 ld, .slice A n c] 29) 0 0
  have x1 := (SBox.new w 26 #[.slice A' n' c']).still c2
  have x2 := SBox.new (w.alloc (.cells #[.slice A' n' c'] 26)) 29 #[.int .i64 st, .int .i64 ld, .slice A n c]
  rw [e1] at x2
  have C0 := Lib.hid (c1.trans c2)
  have X1 := Lib.hid x1
  have X2 := Lib.hid x2
  have D0 := Lib.hid (show RdR ((w.alloc (.cells #[.slice A' n' c'] 26)).alloc (.cells #[.int .i64 st, .int .i64 ld, .slice A n c] 29)) 0 _ A' n' zss from (hD.still C0.out).all)
  have H0 := Lib.hid (show Rd ((w.alloc (.cells #[.slice A' n' c'] 26)).alloc (.cells #[.int .i64 st, .int .i64 ld, .slice A n c] 29)) 0 _ A n cs from (h.still C0.out).all)
  clear hD h e1 c1 c2 x1 x2
  go_enter Try.func66, Try.ntmps66
  go_wp2_with (first | (refine wpList_load_row rfl 26 _ rfl w.heap.size rfl 26 #[.slice A' n' c'] (0, 0) _ X1.out Try.underlying26 rfl (deal_info7 _) ?_) | (refine wpList_load_row rfl 29 _ rfl (w.heap.size + 1) rfl 29 #[.int .i64 st, .int .i64 ld, .slice A n c] (0, 0) _ X2.out Try.underlying29 rfl (play_info _ _ _ _ _) ?_))
  generalize ((w.alloc (.cells #[.slice A' n' c'] 26)).alloc (.cells #[.int .i64 st, .int .i64 ld, .slice A n c] 29)) = W at C0 X1 X2 D0 H0 ⊢
  refine (isDeal A' n' c' zss 0 _ W D0.out).mono ?_
  rintro e w1 ⟨rfl, k1⟩
  have C1 := Lib.hid (C0.out.trans k1)
  have X1 := Lib.hid (X1.out.still k1)
  have X2 := Lib.hid (X2.out.still k1)
  have D1 := Lib.hid (show RdR w1 0 w1.heap.size A' n' zss from (D0.out.still k1).all)
  have H1 := Lib.hid (show Rd w1 0 w1.heap.size A n cs from (H0.out.still k1).all)
  clear k1 C0 D0 H0
  cases hd : dealB zss
  · have hr : Hid (R = false) := by show R = _; rw [HP.out, hd]; rfl
    clear hd
    go_wp2
    go_ret2
    exact ⟨_, by rw [hr.out]; first | done | rfl, C1.out.to_below, fun e => by rw [hr.out] at e; cases e⟩
  have HDL := Lib.hid hd
  clear hd
  have p0 : w1.cell? ⟨w.heap.size + 1, 0, none⟩ = some (.int .i64 st) := (X2.out.cell 0).trans rfl
  have p1 : w1.cell? ⟨w.heap.size + 1, 1, none⟩ = some (.int .i64 ld) := (X2.out.cell 1).trans rfl
  have p2 : w1.cell? ⟨w.heap.size + 1, 2, none⟩ = some (.slice A n c) := (X2.out.cell 2).trans rfl
  go_wp2_with fail
  clear p0 p1 p2
  refine (impl_IsPlainPlay st ld A n c cs w1 H1.out hn hcap).mono ?_
  rintro e w2 ⟨rfl, k1⟩
  have C2 := Lib.hid (C1.out.trans k1)
  have X1 := Lib.hid (X1.out.still k1)
  have X2 := Lib.hid (X2.out.still k1)
  have D2 := Lib.hid (show RdR w2 0 w2.heap.size A' n' zss from (D1.out.still k1).all)
  have H2 := Lib.hid (show Rd w2 0 w2.heap.size A n cs from (H1.out.still k1).all)
  clear k1 C1 D1 H1
  cases hp : plainB st ld cs
  · have hr : Hid (R = false) := by show R = _; rw [HP.out, hp, HDL.out]; rfl
    clear hp
    go_wp2
    go_ret2
    exact ⟨_, by rw [hr.out]; first | done | rfl, C2.out.to_below, fun e => by rw [hr.out] at e; cases e⟩
  obtain ⟨hdf, _, hld, hn52⟩ := plain_parts hp
  have HP := Lib.hid (show R = playTo zss st ld cs n by rw [HP.out, hp, HDL.out]; rfl)
  have HZ := Lib.hid (fun j (hj : j < n) => diff_card hdf (show j < cs.length by rw [hl.out]; exact hj))
  clear hp hdf hn52
  go_upto_region 3 with (fail)
  go_cut [6] from 17 to 26 (fun vg wx => ∃ g, vg = .pointer (some ⟨g, 0, none⟩) ∧ Hid (Gst wx g w.heap.size zss st ld []) ∧ Hid (SBox wx 29 (w.heap.size + 1) #[.int .i64 st, .int .i64 ld, .slice A n c]) ∧ Hid (Chg w wx 0 0))
  case first =>
      have cd : Chg w2 w2.drew 0 0 := Chg.of_drew ⟨1, rfl⟩ 0 0
      have hS := And.intro (X1.out.still cd) (X2.out.still cd)
      have CV := Lib.hid (C2.out.trans cd)
      have D3 := Lib.hid (D2.out.still cd)
      have HS0 := Lib.hid CV.out.size
      clear cd HP HZ C2 X1 X2 D2 H2
      refine wp_region_held_drew (S := fun V => SBox V 26 w.heap.size #[.slice A' n' c'] ∧ SBox V 29 (w.heap.size + 1) #[.int .i64 st, .int .i64 ld, .slice A n c]) (by kernel_rfl) hS (fun hHeld => ?_)
      generalize w2.drew = V0 at CV D3 HS0 hHeld ⊢
      refine take_slotC (i := 0) (d := some 17) (v := .pointer (some ⟨w.heap.size + 1, 0, none⟩)) rfl (by kernel_rfl) (by kernel_rfl) (by kernel_rfl) (by kernel_rfl) (fun _ _ _ h => h) (.inl ⟨by kernel_rfl, fun V hV => by obtain ⟨hV1, hV2⟩ := hV; have q0 := (SBox.cell hV2 0).trans rfl; have q1 := (SBox.cell hV2 1).trans rfl; go_simp⟩) hHeld ?_
      try simp only [Act.put, List.setIfInBounds_toArray, List.set_cons_zero, List.set_cons_succ]
      refine take_slotC (i := 1) (d := some 18) (v := .int .i64 st) rfl (by kernel_rfl) (by kernel_rfl) (by kernel_rfl) (by kernel_rfl) (fun _ _ _ h => h) (.inl ⟨by kernel_rfl, fun V hV => by obtain ⟨hV1, hV2⟩ := hV; have q0 := (SBox.cell hV2 0).trans rfl; have q1 := (SBox.cell hV2 1).trans rfl; go_simp⟩) hHeld ?_
      try simp only [Act.put, List.setIfInBounds_toArray, List.set_cons_zero, List.set_cons_succ]
      refine take_slotC (i := 2) (d := some 19) (v := .pointer (some ⟨w.heap.size + 1, 1, none⟩)) rfl (by kernel_rfl) (by kernel_rfl) (by kernel_rfl) (by kernel_rfl) (fun _ _ _ h => h) (.inl ⟨by kernel_rfl, fun V hV => by obtain ⟨hV1, hV2⟩ := hV; have q0 := (SBox.cell hV2 0).trans rfl; have q1 := (SBox.cell hV2 1).trans rfl; go_simp⟩) hHeld ?_
      try simp only [Act.put, List.setIfInBounds_toArray, List.set_cons_zero, List.set_cons_succ]
      refine take_slotC (i := 3) (d := some 20) (v := .int .i64 ld) rfl (by kernel_rfl) (by kernel_rfl) (by kernel_rfl) (by kernel_rfl) (fun _ _ _ h => h) (.inl ⟨by kernel_rfl, fun V hV => by obtain ⟨hV1, hV2⟩ := hV; have q0 := (SBox.cell hV2 0).trans rfl; have q1 := (SBox.cell hV2 1).trans rfl; go_simp⟩) hHeld ?_
      try simp only [Act.put, List.setIfInBounds_toArray, List.set_cons_zero, List.set_cons_succ]
      refine take_slotC (i := 5) (d := some 22) (v := .agg #[.slice A' n' c']) rfl (by kernel_rfl) (by kernel_rfl) (by kernel_rfl) (by kernel_rfl) (fun _ _ _ h => h) (yieldsIf_load_mid (by kernel_rfl) 26 (.tmp 2) rfl w.heap.size 0 rfl [.slice A' n' c'] _ (fun V hV => SBox.range hV.1) Try.underlying26 rfl (deal_infoL8 _)) hHeld ?_
      try simp only [Act.put, List.setIfInBounds_toArray, List.set_cons_zero, List.set_cons_succ]
      refine wpAnyH_ready (rs := [4]) (by kernel_rfl) (by simp) (AllReadyH.cons (i := 4) rfl (fun K' hK' => ?_) AllReadyH.nil)
      go_simp
      refine (startTricks8 st ld V0).mono ?_
      rintro e w3 ⟨c1, a0, bb, sb, rfl, k1, k2, k3, ⟨r1, r2⟩, ⟨r3, r4⟩, ⟨r5, r6⟩, ⟨r7, r8⟩, g3⟩
      have K1 := Lib.hid k1
      have K2 := Lib.hid k2
      have K3 := Lib.hid k3
      clear k1 k2 k3
      have D3 := Lib.hid (D3.out.still g3)
      have CV := Lib.hid (CV.out.trans g3)
      have s3 := g3.size
      refine hK'.out _ _ ⟨hHeld.1.still g3, hHeld.2.still g3⟩ (fun hHeld => ?_)
      clear hK' g3
      try simp only [Act.put, List.setIfInBounds_toArray, List.set_cons_zero, List.set_cons_succ]
      refine wpAnyH_ready (rs := [6]) (by kernel_rfl) (by simp) (AllReadyH.cons (i := 6) rfl (fun K' hK' => ?_) AllReadyH.nil)
      go_simp
      refine (copyDeal A' n' c' zss 0 _ w3 D3.out HDL.out).mono ?_
      rintro e w4 ⟨b0, c0, rfl, hc0, hc0m, o1, g3⟩
      have O1 := Lib.hid o1
      clear o1
      have K1 := Lib.hid (K1.out.still g3)
      have K2 := Lib.hid (K2.out.still g3)
      have K3 := Lib.hid (K3.out.still g3)
      have CV := Lib.hid (CV.out.trans g3)
      have s4 := g3.size
      refine hK'.out _ _ ⟨hHeld.1.still g3, hHeld.2.still g3⟩ (fun hHeld => ?_)
      clear hK' g3
      try simp only [Act.put, List.setIfInBounds_toArray, List.set_cons_zero, List.set_cons_succ]
      have hfd := deal_field (some ⟨b0, 0, none⟩) 4 c0
      have hbg := bldG8 c1 b0 c0
      refine take_slotC (i := 7) (d := some 24) (v := .slice (some ⟨b0, 0, none⟩) 4 c0) rfl (by kernel_rfl) (by kernel_rfl) (by kernel_rfl) (by kernel_rfl) (fun _ _ _ h => h) (.inl ⟨by kernel_rfl, fun V hV => by obtain ⟨hV1, hV2⟩ := hV; have q0 := (SBox.cell hV2 0).trans rfl; have q1 := (SBox.cell hV2 1).trans rfl; go_simp⟩) hHeld ?_
      try simp only [Act.put, List.setIfInBounds_toArray, List.set_cons_zero, List.set_cons_succ]
      refine take_slotC (i := 8) (d := some 25) (v := .agg #[.pointer (some ⟨c1, 0, none⟩), .slice (some ⟨b0, 0, none⟩) 4 c0]) rfl (by kernel_rfl) (by kernel_rfl) (by kernel_rfl) (by kernel_rfl) (fun _ _ _ h => h) (.inl ⟨by kernel_rfl, fun V hV => by obtain ⟨hV1, hV2⟩ := hV; have q0 := (SBox.cell hV2 0).trans rfl; have q1 := (SBox.cell hV2 1).trans rfl; go_simp⟩) hHeld ?_
      try simp only [Act.put, List.setIfInBounds_toArray, List.set_cons_zero, List.set_cons_succ]
      clear hfd hbg
      refine wpAnyH_ready (rs := [9]) (by kernel_rfl) (by simp) (AllReadyH.cons (i := 9) rfl (fun K' hK' => ?_) AllReadyH.nil)
      go_simp
      have ga := Chg.of_alloc w4 (.cells #[.pointer (some ⟨c1, 0, none⟩), .slice (some ⟨b0, 0, none⟩) 4 c0] 84) 0 0
      have NG : Hid (GBox (w4.alloc (.cells #[.pointer (some ⟨c1, 0, none⟩), .slice (some ⟨b0, 0, none⟩) 4 c0] 84)) w4.heap.size (.pointer (some ⟨c1, 0, none⟩)) (.slice (some ⟨b0, 0, none⟩) 4 c0)) := heap_alloc_new w4 _
      have K1 := Lib.hid (K1.out.still ga)
      have K2 := Lib.hid (K2.out.still ga)
      have K3 := Lib.hid (K3.out.still ga)
      have O1 := Lib.hid (O1.out.still ga)
      have CV := Lib.hid (CV.out.trans ga)
      refine hK'.out _ _ ⟨hHeld.1.still ga, hHeld.2.still ga⟩ (fun hHeld => ?_)
      clear hK'
      try simp only [Act.put, List.setIfInBounds_toArray, List.set_cons_zero, List.set_cons_succ]
      refine take_slotC (i := 10) (d := some 6) (v := .pointer (some ⟨w4.heap.size, 0, none⟩)) rfl (by kernel_rfl) (by kernel_rfl) (by kernel_rfl) (by kernel_rfl) (fun _ _ _ h => h) (.inl ⟨by kernel_rfl, fun V hV => by obtain ⟨hV1, hV2⟩ := hV; have q0 := (SBox.cell hV2 0).trans rfl; have q1 := (SBox.cell hV2 1).trans rfl; go_simp⟩) hHeld ?_
      try simp only [Act.put, List.setIfInBounds_toArray, List.set_cons_zero, List.set_cons_succ]
      refine wpAnyH_done (by kernel_rfl) ?_ _
      have zz := NG.out.lt
      have hs0 := HS0.out
      have hc0z := ga.size
      have GS : Gst (w4.alloc (.cells #[.pointer (some ⟨c1, 0, none⟩), .slice (some ⟨b0, 0, none⟩) 4 c0] 84)) w4.heap.size w.heap.size zss st ld [] := ⟨c1, b0, c0, w3.heap.size, w4.heap.size, NG.out, Tch.start K1.out K2.out K3.out ⟨by omega, by omega, fun hz => by omega⟩ ⟨by omega, by omega, fun hz => by omega⟩ ⟨by omega, by omega, fun hz => by omega⟩ ⟨by omega, by omega, fun hz => by omega⟩ (fun k hz => by omega), by rw [leftTo_nil ((deal_iff zss).1 HDL.out).1]; exact O1.out, by omega, ⟨by omega, by omega, hc0⟩, by omega⟩
      go_wp2_with fail
      go_meet
      exact ⟨w4.heap.size, rfl, GS, hHeld.2, CV.out⟩
  case rest =>
    obtain ⟨g, rfl, hg, hx, hc⟩ := hcut
    have q2 : wc.cell? ⟨w.heap.size + 1, 2, none⟩ = some (.slice A n c) := (hx.out.cell 2).trans rfl
    have BB := Lib.hid (show Below w.heap.size w wc from hc.out.to_below)
    go_wp2_with fail
    clear q2 hx hc X1 X2 C2 D2 H2
    go_loopw [30] (fun i wr => ∃ k : Nat, k ≤ n ∧ i = .int .i64 k ∧ Hid (Gst wr g w.heap.size zss st ld (cs.take k)) ∧ Hid (playTo zss st ld cs k = true) ∧ Hid (Below w.heap.size w wr)) (fun i _ => n - (intOf i).toNat)
    case atStart => exact ⟨0, Nat.zero_le _, rfl, hg.out, rfl, BB.out⟩
    case round =>
      obtain ⟨k, hk, rfl, hst, hpl, hb⟩ := hrel
      by_cases hlt : k < n
      · have hkl : (k : Int) < (n : Int) := by omega
        obtain ⟨b, off, rfl, _, hbw, hcs⟩ := HRW.out.2 (by omega)
        have hck : wr.cell? ⟨b, off + k, none⟩ = some (.int .i64 (cs.getD k 0)) := by
          have := hcs k hlt
          rw [World.cell?_of_block (hb.out.block b hbw)]; exact this
        have hsu : Hid (playTo zss st ld cs (k + 1) = hasB (legL zss st ld (cs.take k)) (cs.getD k 0)) := by show _ = _; rw [playTo, hpl.out, Bool.true_and]
        have htk := Lib.hid (take_one (cs := cs) (k := k) (by have := hl.out; omega))
        have hzt : ∀ j, j < (cs.take k).length → 0 ≤ (cs.take k).getD j 0 ∧ (cs.take k).getD j 0 ≤ 51 := fun j hj => by
          rw [List.length_take] at hj
          rw [show (cs.take k).getD j 0 = cs.getD j 0 by simp [List.getD, show j < k by omega]]
          exact HZ.out j (by omega)
        have HZT := Lib.hid hzt
        clear hcs hzt
        generalize cs.getD k 0 = x at hck hsu htk
        have hB := hb.out.size
        go_wp2_with fail
        refine (allows8 g w.heap.size zss st ld x (cs.take k) wr hst.out hB hld HDL.out HZT.out).mono ?_
        rintro e w5 ⟨rfl, k5⟩
        have G5 := Lib.hid (hst.out.still k5)
        have B5 := Lib.hid (hb.out.trans (k5.to_below.mono hB))
        clear k5 hck hB
        cases hal : hasB (legL zss st ld (cs.take k)) x
        · have hr : Hid (R = false) := by
            show R = false
            rw [HP.out]
            cases hq : playTo zss st ld cs n
            · rfl
            · have := play_le (show k + 1 ≤ n by omega) hq
              rw [hsu.out, hal] at this
              cases this
          clear hal
          go_wp2
          go_ret2
          exact ⟨_, by rw [hr.out]; first | done | rfl, B5.out, fun e => by rw [hr.out] at e; cases e⟩
        · have HS := Lib.hid (show playTo zss st ld cs (k + 1) = true by rw [hsu.out, hal])
          have HAL := Lib.hid hal
          clear hal
          go_wp2_with fail
          refine (addG8 g w.heap.size zss st ld x (cs.take k) w5 G5.out B5.out.size hld HDL.out HZT.out HAL.out).mono ?_
          rintro e w6 ⟨rfl, g6, b6⟩
          rw [← htk.out] at g6
          have G6 := Lib.hid g6
          have B6 := Lib.hid (B5.out.trans b6)
          clear g6 b6
          go_wp2_with fail
          go_roundw
          case rel => exact ⟨k + 1, by omega, by go_num, G6.out, HS.out, B6.out⟩
          case measure => simp [intOf]; omega
      · obtain rfl : k = n := by omega
        have hr : Hid (R = true) := by show R = true; rw [HP.out]; exact hpl.out
        have HTn := Lib.hid (show Gst wr g w.heap.size zss st ld cs by have := hst.out; rwa [List.take_of_length_le (by have := hl.out; omega)] at this)
        go_wp2
        go_ret2
        exact ⟨_, by rw [hr.out]; first | done | rfl, hb.out, fun _ => ⟨g, rfl, HTn.out⟩⟩
end Go.Proofs.Yteglffbeldlibaa.Lib1
