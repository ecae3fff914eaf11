/- Chapter 8, the model: the text of a play. (Written by wip/gen8h.py.) -/
import Derived.Test.YteglffbeldlibaaPlayM8
import Derived.Test.YteglffbeldlibaaPlayT8
import Derived.Laws.Concat
namespace Go.Proofs.Yteglffbeldlibaa.Lib1
open Go.RowKit
set_option maxRecDepth 100000

theorem l08Seat (d : Int) (w : World) (h : 0 ≤ d ∧ d ≤ 3) : Calls Try.prog 111 #[.int .i64 d] w fun e w' => e = .returned (.string (seatT8 d)) ∧ w = w' := by
  have hq : d = 0 ∨ d = 1 ∨ d = 2 ∨ d = 3 := by omega
  rcases hq with rfl | rfl | rfl | rfl
  all_goals
    go_enter Try.func111, Try.ntmps111
    go_wp2
    go_ret
    exact ⟨ret_str (by decide +kernel), rfl⟩
set_option maxHeartbeats 8000000 in
/-- spec.PlayText -/
theorem spec_PlayText (st ld : Int) (A : Option Addr) (n c : Nat) (cs : List Int) (w : World) (h : Rd w 0 w.heap.size A n cs) (hn : n ≤ 1048576) (hcap : n ≤ c) :
    Calls Try.prog 60 #[.agg #[.int .i64 st, .int .i64 ld, .slice A n c]] w fun e w' => e = .returned (.string (plyT st ld cs)) ∧ Chg w w' 0 0 := by
  have hl := Lib.hid h.1
  have HR := Lib.hid (show plyT st ld cs = if plainB st ld cs then ptTo st ld cs n else ⟨#[]⟩ by unfold plyT; rw [hl.out])
  obtain ⟨R, hR⟩ : ∃ R, R = plyT st ld cs := ⟨_, rfl⟩
  rw [← hR] at HR ⊢
  have B0 := Lib.hid (SBox.new w 29 #[.int .i64 st, .int .i64 ld, .slice A n c])
  have C0 := Lib.hid (Chg.of_alloc w (.cells #[.int .i64 st, .int .i64 ld, .slice A n c] 29) 0 0)
  have z0 : w.heap.size < (w.alloc (.cells #[.int .i64 st, .int .i64 ld, .slice A n c] 29)).heap.size := by simp
  have H := Lib.hid (h.still C0.out)
  clear h hR
  go_enter Try.func60, Try.ntmps60
  go_wp2_with (refine wpList_load_row rfl 29 _ rfl w.heap.size rfl 29 #[.int .i64 st, .int .i64 ld, .slice A n c] (0, 0) _ B0.out Try.underlying29 rfl (play_info _ _ _ _ _) ?_)
  generalize w.alloc (.cells #[.int .i64 st, .int .i64 ld, .slice A n c] 29) = W at B0 C0 H z0 ⊢
  refine (spec_IsPlainPlay st ld A n c cs 0 w.heap.size W H.out hn hcap).mono ?_
  rintro e w1 ⟨rfl, c1⟩
  have B1 := Lib.hid (B0.out.still c1)
  have C1 := Lib.hid (C0.out.trans c1)
  have H1 := Lib.hid (H.out.still c1)
  have z1 : w.heap.size < w1.heap.size := by have := c1.size; omega
  clear c1 B0 C0 H z0
  cases hp : plainB st ld cs
  · have hr := Lib.hid (show R = ⟨#[]⟩ by rw [HR.out, hp]; rfl)
    clear hp
    go_wp2_with fail
    go_ret
    exact ⟨ret_str hr.out.symm, C1.out⟩
  · have hr := Lib.hid (show R = ptTo st ld cs n by rw [HR.out, hp]; rfl)
    obtain ⟨_, hst, hld, hn52⟩ := plain_parts hp
    rw [hl.out] at hn52
    have HST := Lib.hid hst
    have HLD := Lib.hid hld
    have t0 := Lib.hid (show ptTo st ld cs 0 = (strT8 st ++ seatT8 ld) ++ ⟨#[58]⟩ from rfl)
    have k1 := strT8_size hst
    have k2 : (seatT8 ld).size = 1 := rfl
    have k3 : (ByteArray.mk #[58]).size = 1 := rfl
    have r0 := fun V => run_string_add_sum (P := Try.prog) (w := V) (strT8 st) (seatT8 ld) (by omega)
    have r1 := fun V => run_string_add_sum (P := Try.prog) (w := V) (strT8 st ++ seatT8 ld) ⟨#[58]⟩ (by rw [app_size8]; omega)
    have e0 := Lib.hid (show strT8 st = (ByteArray.mk #[67, 68, 72, 83, 78]).extract st.toNat (st + 1).toNat from rfl)
    have s0 : 0 ≤ st := hst.1
    have s1 : st ≤ st + 1 := by omega
    have s2 : st + 1 ≤ ((ByteArray.mk #[67, 68, 72, 83, 78]).size : Int) := by have : (ByteArray.mk #[67, 68, 72, 83, 78]).size = 5 := rfl; omega
    have s4 : st + 1 ≤ 5 := by omega
    have s5 : 0 ≤ st + 1 := by omega
    have s6 : ¬ 5 < st + 1 := by omega
    have s3 : IntKind.i64.wrap (st + 1) = st + 1 := by rw [IntKind.wrap_i64]; omega
    have cd : Chg w1 w1.drew 0 0 := Chg.of_drew ⟨1, rfl⟩ 0 0
    have S0 : SBox w1.drew 29 w.heap.size #[.int .i64 st, .int .i64 ld, .slice A n c] := B1.out.still cd
    clear hp hst hld k1 k2 k3
    rw [e0.out] at r0 r1
    go_wp2_with fail
    refine wp_region_held_drew (S := fun V => SBox V 29 w.heap.size #[.int .i64 st, .int .i64 ld, .slice A n c]) (by kernel_rfl) S0 (fun hHeld => ?_)
    refine take_slotC (i := 0) (d := some 8) (v := .pointer (some ⟨w.heap.size, 0, none⟩)) rfl (by kernel_rfl) (by kernel_rfl) (by kernel_rfl) (by kernel_rfl) (fun _ _ _ h => h) (.inl ⟨by kernel_rfl, fun V hV => by have hV0 := SBox.p0 hV; have hV1 := SBox.p1 hV; have hV2 := SBox.p2 hV; go_simp⟩) hHeld ?_
    try simp only [Act.put, List.setIfInBounds_toArray, List.set_cons_zero, List.set_cons_succ]
    refine take_slotC (i := 1) (d := some 9) (v := .int .i64 st) rfl (by kernel_rfl) (by kernel_rfl) (by kernel_rfl) (by kernel_rfl) (fun _ _ _ h => h) (.inl ⟨by kernel_rfl, fun V hV => by have hV0 := SBox.p0 hV; have hV1 := SBox.p1 hV; have hV2 := SBox.p2 hV; go_simp⟩) hHeld ?_
    try simp only [Act.put, List.setIfInBounds_toArray, List.set_cons_zero, List.set_cons_succ]
    refine take_slotC (i := 2) (d := some 10) (v := .pointer (some ⟨w.heap.size, 0, none⟩)) rfl (by kernel_rfl) (by kernel_rfl) (by kernel_rfl) (by kernel_rfl) (fun _ _ _ h => h) (.inl ⟨by kernel_rfl, fun V hV => by have hV0 := SBox.p0 hV; have hV1 := SBox.p1 hV; have hV2 := SBox.p2 hV; go_simp⟩) hHeld ?_
    try simp only [Act.put, List.setIfInBounds_toArray, List.set_cons_zero, List.set_cons_succ]
    refine take_slotC (i := 3) (d := some 11) (v := .int .i64 st) rfl (by kernel_rfl) (by kernel_rfl) (by kernel_rfl) (by kernel_rfl) (fun _ _ _ h => h) (.inl ⟨by kernel_rfl, fun V hV => by have hV0 := SBox.p0 hV; have hV1 := SBox.p1 hV; have hV2 := SBox.p2 hV; go_simp⟩) hHeld ?_
    try simp only [Act.put, List.setIfInBounds_toArray, List.set_cons_zero, List.set_cons_succ]
    refine take_slotC (i := 4) (d := some 12) (v := .int .i64 (st + 1)) rfl (by kernel_rfl) (by kernel_rfl) (by kernel_rfl) (by kernel_rfl) (fun _ _ _ h => h) (.inl ⟨by kernel_rfl, fun V hV => by have hV0 := SBox.p0 hV; have hV1 := SBox.p1 hV; have hV2 := SBox.p2 hV; go_simp⟩) hHeld ?_
    try simp only [Act.put, List.setIfInBounds_toArray, List.set_cons_zero, List.set_cons_succ]
    refine take_slotC (i := 5) (d := some 13) (v := .string ((ByteArray.mk #[67, 68, 72, 83, 78]).extract st.toNat (st + 1).toNat)) rfl (by kernel_rfl) (by kernel_rfl) (by kernel_rfl) (by kernel_rfl) (fun _ _ _ h => h) (.inl ⟨by kernel_rfl, fun V hV => by have hV0 := SBox.p0 hV; have hV1 := SBox.p1 hV; have hV2 := SBox.p2 hV; go_simp⟩) hHeld ?_
    try simp only [Act.put, List.setIfInBounds_toArray, List.set_cons_zero, List.set_cons_succ]
    refine take_slotC (i := 6) (d := some 14) (v := .pointer (some ⟨w.heap.size, 1, none⟩)) rfl (by kernel_rfl) (by kernel_rfl) (by kernel_rfl) (by kernel_rfl) (fun _ _ _ h => h) (.inl ⟨by kernel_rfl, fun V hV => by have hV0 := SBox.p0 hV; have hV1 := SBox.p1 hV; have hV2 := SBox.p2 hV; go_simp⟩) hHeld ?_
    try simp only [Act.put, List.setIfInBounds_toArray, List.set_cons_zero, List.set_cons_succ]
    refine take_slotC (i := 7) (d := some 15) (v := .int .i64 ld) rfl (by kernel_rfl) (by kernel_rfl) (by kernel_rfl) (by kernel_rfl) (fun _ _ _ h => h) (.inl ⟨by kernel_rfl, fun V hV => by have hV0 := SBox.p0 hV; have hV1 := SBox.p1 hV; have hV2 := SBox.p2 hV; go_simp⟩) hHeld ?_
    try simp only [Act.put, List.setIfInBounds_toArray, List.set_cons_zero, List.set_cons_succ]
    refine wpAnyH_ready (rs := [8]) (by kernel_rfl) (by simp) (AllReadyH.cons (i := 8) rfl (fun K' hK' => ?_) AllReadyH.nil)
    go_simp
    refine (l08Seat ld _ HLD.out).mono ?_
    rintro e w' ⟨rfl, rfl⟩
    refine hK'.out _ _ hHeld (fun hHeld => ?_)
    clear hK'
    try simp only [Act.put, List.setIfInBounds_toArray, List.set_cons_zero, List.set_cons_succ]
    refine take_slotC (i := 9) (d := some 17) (v := .string (((ByteArray.mk #[67, 68, 72, 83, 78]).extract st.toNat (st + 1).toNat) ++ seatT8 ld)) rfl (by kernel_rfl) (by kernel_rfl) (by kernel_rfl) (by kernel_rfl) (fun _ _ _ h => h) (.inl ⟨by kernel_rfl, fun V hV => by have hV0 := SBox.p0 hV; have hV1 := SBox.p1 hV; have hV2 := SBox.p2 hV; go_simp⟩) hHeld ?_
    try simp only [Act.put, List.setIfInBounds_toArray, List.set_cons_zero, List.set_cons_succ]
    refine take_slotC (i := 10) (d := some 18) (v := .string ((((ByteArray.mk #[67, 68, 72, 83, 78]).extract st.toNat (st + 1).toNat) ++ seatT8 ld) ++ ⟨#[58]⟩)) rfl (by kernel_rfl) (by kernel_rfl) (by kernel_rfl) (by kernel_rfl) (fun _ _ _ h => h) (.inl ⟨by kernel_rfl, fun V hV => by have hV0 := SBox.p0 hV; have hV1 := SBox.p1 hV; have hV2 := SBox.p2 hV; go_simp⟩) hHeld ?_
    try simp only [Act.put, List.setIfInBounds_toArray, List.set_cons_zero, List.set_cons_succ]
    refine take_slotC (i := 11) (d := some 3) (v := .string ((((ByteArray.mk #[67, 68, 72, 83, 78]).extract st.toNat (st + 1).toNat) ++ seatT8 ld) ++ ⟨#[58]⟩)) rfl (by kernel_rfl) (by kernel_rfl) (by kernel_rfl) (by kernel_rfl) (fun _ _ _ h => h) (.inl ⟨by kernel_rfl, fun V hV => by have hV0 := SBox.p0 hV; have hV1 := SBox.p1 hV; have hV2 := SBox.p2 hV; go_simp⟩) hHeld ?_
    try simp only [Act.put, List.setIfInBounds_toArray, List.set_cons_zero, List.set_cons_succ]
    refine wpAnyH_done (by kernel_rfl) ?_ _
    have B2 := Lib.hid hHeld
    have C2 := Lib.hid (C1.out.trans cd)
    have H2 := Lib.hid (H1.out.still cd)
    rw [← e0.out, ← t0.out]
    clear B1 C1 H1 S0 hHeld r0 r1 s0 s1 s2 s3 s4 s5 s6 e0 t0
    generalize w1.drew = W2 at B2 C2 H2 cd ⊢
    clear cd
    go_wp2_with fail
    go_loopw [3, 4] (fun u i wr => ∃ k : Nat, k ≤ n ∧ i = .int .i64 k ∧ u = .string (ptTo st ld cs k) ∧ Hid (SBox wr 29 w.heap.size #[.int .i64 st, .int .i64 ld, .slice A n c]) ∧ Hid (Rd wr 0 w.heap.size A n cs) ∧ Hid (Chg w wr 0 0)) (fun _ i _ => n - (intOf i).toNat)
    case atStart => exact ⟨0, Nat.zero_le _, rfl, rfl, B2.out, H2.out, C2.out⟩
    case round =>
      obtain ⟨k, hk, rfl, rfl, hB, hRR, hC⟩ := hrel
      have q2 := hB.out.p2
      by_cases hlt : k < n
      · obtain ⟨b, off, rfl, _, _, hcc⟩ := hRR.out.2 (by omega)
        have hck := hcc k hlt
        have hkl : (k : Int) < (n : Int) := by omega
        have hst : Hid (ptTo st ld cs (k + 1) = (ptTo st ld cs k ++ gapT k) ++ cardTextV (cs.getD k 0)) := rfl
        have hsz := ptTo_size (ld := ld) HST.out cs k
        generalize cs.getD k 0 = z at hck hst
        have hcz := cardTextV_size z
        generalize ptTo st ld cs k = X at hsz hst
        have j6 : Int.tmod (k : Int) 4 = (k : Int) % 4 := Int.tmod_eq_emod_of_nonneg (by omega)
        clear hcc
        by_cases hm : k % 4 = 0
        · have g0 : gapT k = ⟨#[32]⟩ := by unfold gapT gapB; rw [if_pos hm]
          have hmi : (k : Int) % 4 = 0 := by omega
          rw [g0] at hst
          have r1 := fun V => run_string_add_sum (P := Try.prog) (w := V) X ⟨#[32]⟩ (by have : (ByteArray.mk #[32]).size = 1 := rfl; omega)
          have r2 := fun V => run_string_add_sum (P := Try.prog) (w := V) (X ++ ⟨#[32]⟩) (cardTextV z) (by have : (ByteArray.mk #[32]).size = 1 := rfl; rw [app_size8]; omega)
          clear g0 hsz hcz hm
          go_wp2_with fail
          refine (spec_CardText z _).mono ?_
          rintro e w2 ⟨rfl, _, c2⟩
          have hc2 := Lib.hid (hC.out.trans c2)
          have E1 := Lib.hid (hB.out.still c2)
          have E2 := Lib.hid (hRR.out.still c2)
          clear c2
          go_wp2_with fail
          go_roundw
          case rel => exact ⟨k + 1, by omega, by go_num, by rw [hst.out], E1.out, E2.out, hc2.out⟩
          case measure => simp [intOf]; omega
        · have g0 : gapT k = ⟨#[46]⟩ := by unfold gapT gapB; rw [if_neg hm]
          have hmi : ((k : Int) % 4 == 0) = false := by simp; omega
          rw [g0] at hst
          have r1 := fun V => run_string_add_sum (P := Try.prog) (w := V) X ⟨#[46]⟩ (by have : (ByteArray.mk #[46]).size = 1 := rfl; omega)
          have r2 := fun V => run_string_add_sum (P := Try.prog) (w := V) (X ++ ⟨#[46]⟩) (cardTextV z) (by have : (ByteArray.mk #[46]).size = 1 := rfl; rw [app_size8]; omega)
          clear g0 hsz hcz hm
          go_wp2_with fail
          refine (spec_CardText z _).mono ?_
          rintro e w2 ⟨rfl, _, c2⟩
          have hc2 := Lib.hid (hC.out.trans c2)
          have E1 := Lib.hid (hB.out.still c2)
          have E2 := Lib.hid (hRR.out.still c2)
          clear c2
          go_wp2_with fail
          go_roundw
          case rel => exact ⟨k + 1, by omega, by go_num, by rw [hst.out], E1.out, E2.out, hc2.out⟩
          case measure => simp [intOf]; omega
      · obtain rfl : k = n := by omega
        have hkl : ¬ (k : Int) < (k : Int) := by omega
        go_wp2_with fail
        go_ret
        exact ⟨ret_str hr.out.symm, hC.out⟩
end Go.Proofs.Yteglffbeldlibaa.Lib1
