/- Chapter 8, the model: plain plays, the winner of a trick, leaders, turns, what is left, legal cards. (Written by wip/gen8.py.) -/
import Derived.Test.YteglffbeldlibaaPlay8
import Derived.Test.YteglffbeldlibaaSBox
import Derived.Test.YteglffbeldlibaaStep7
namespace Go.Proofs.Yteglffbeldlibaa.Lib1
open Go.RowKit
set_option maxRecDepth 100000

theorem play_info (st ld : Int) (A : Option Addr) (n c : Nat) : (Try.prog.info? 29).map (·.size) = some (#[.int .i64 st, .int .i64 ld, .slice A n c] : Array Value).size := by kernel_rfl
theorem play_infoL (st ld : Int) (v : Value) : (Try.prog.info? 29).map (·.size) = some ([.int .i64 st, .int .i64 ld, v] : List Value).length := by kernel_rfl
theorem play_cells (st ld : Int) (A : Option Addr) (n c : Nat) : (#[.int .i64 st, .int .i64 ld, .slice A n c] : Array Value).all (·.oneCell') = true := by kernel_rfl
section
variable {w : World} {g : Nat} {st ld : Int} {v : Value}
theorem SBox.p0 (h : SBox w 29 g #[.int .i64 st, .int .i64 ld, v]) : w.cell? ⟨g, 0, none⟩ = some (.int .i64 st) := (h.cell 0).trans rfl
theorem SBox.p1 (h : SBox w 29 g #[.int .i64 st, .int .i64 ld, v]) : w.cell? ⟨g, 1, none⟩ = some (.int .i64 ld) := (h.cell 1).trans rfl
theorem SBox.p2 (h : SBox w 29 g #[.int .i64 st, .int .i64 ld, v]) : w.cell? ⟨g, 2, none⟩ = some v := (h.cell 2).trans rfl
end

set_option maxHeartbeats 4000000 in
/-- spec.IsPlainPlay -/
theorem spec_IsPlainPlay (st ld : Int) (A : Option Addr) (n c : Nat) (cs : List Int) (lo hi : Nat) (w : World) (h : Rd w lo hi A n cs) (hn : n ≤ 1048576) (hcap : n ≤ c) :
    Calls Try.prog 29 #[.agg #[.int .i64 st, .int .i64 ld, .slice A n c]] w fun e w' => e = .returned (.bool (plainB st ld cs)) ∧ Chg w w' 0 0 := by
  have hl := Lib.hid h.1
  have B0 := Lib.hid (SBox.new w 29 #[.int .i64 st, .int .i64 ld, .slice A n c])
  have C0 := Lib.hid (Chg.of_alloc w (.cells #[.int .i64 st, .int .i64 ld, .slice A n c] 29) 0 0)
  have H := Lib.hid (h.still C0.out)
  have HPB := Lib.hid (show plainB st ld cs = (diffTo cs cs.length && (inB st 0 4 && (inB ld 0 3 && decide (cs.length ≤ 52)))) from rfl)
  rw [hl.out] at HPB
  obtain ⟨R, hR⟩ : ∃ R, R = plainB st ld cs := ⟨_, rfl⟩
  rw [← hR] at HPB ⊢
  clear h hR
  go_enter Try.func29, Try.ntmps29
  go_wp2_with fail
  go_loopw [3] (fun i wr => ∃ k : Nat, k ≤ n ∧ i = .int .i64 k ∧ Hid (diffTo cs k = true) ∧ Hid (SBox wr 29 w.heap.size #[.int .i64 st, .int .i64 ld, .slice A n c]) ∧ Hid (Rd wr lo hi A n cs) ∧ Hid (Chg w wr 0 0)) (fun i _ => n - (intOf i).toNat)
  case atStart => exact ⟨0, Nat.zero_le _, rfl, rfl, B0.out, H.out, C0.out⟩
  case round =>
    obtain ⟨k, hk, rfl, hd, hB, hR, hC⟩ := hrel
    have q2 := hB.out.p2
    by_cases hlt : k < n
    · obtain ⟨b, off, rfl, _, _, hc⟩ := hR.out.2 (by omega)
      have hkl : (k : Int) < (n : Int) := by omega
      have k0 : 0 ≤ (k : Int) := by omega
      have kc : (k : Int) ≤ (c : Int) := by omega
      have hck := hc k hlt
      have hs1 : Hid (diffTo cs (k + 1) = (inB (cs.getD k 0) 0 51 && !hasB (cs.take k) (cs.getD k 0))) := by show _ = _; rw [diffTo, hd.out]; simp
      have hno : Hid (diffTo cs (k + 1) = false → R = false) := fun q => by
        rw [HPB.out]
        cases e : diffTo cs n
        · rfl
        · have := diff_le (show k + 1 ≤ n by omega) e; rw [q] at this; cases this
      have hHas := Lib.hid (fun (V : World) (cv : Chg wr V 0 0) (z : Int) => l01Has (some ⟨b, off, none⟩) k c z (cs.take k) lo hi V ((hR.out.still cv).take hk) (by omega))
      have cd : Chg wr wr.drew 0 0 := Chg.of_drew ⟨1, rfl⟩ 0 0
      have hB2 := Lib.hid (hB.out.still cd)
      have hR2 := Lib.hid (hR.out.still cd)
      have hC2 := Lib.hid (hC.out.trans cd)
      generalize cs.getD k 0 = z at hck hs1
      have hbi := l01Card z
      generalize inB z 0 51 = bi at hbi hs1
      have hHas := Lib.hid (fun (V : World) (cv : Chg wr V 0 0) => hHas.out V cv z)
      generalize hasB (cs.take k) z = hb at hHas hs1
      have HBI := Lib.hid hbi
      have S0 : wr.drew.cell? ⟨w.heap.size, 2, none⟩ = some (.slice (some ⟨b, off, none⟩) n c) ∧ wr.drew.cell? ⟨b, off + k, none⟩ = some (.int .i64 z) := ⟨q2, hck⟩
      clear hc hbi B0 H C0 cd hB hC hR
      cases bi
      · have hr := Lib.hid (hno.out (by rw [hs1.out]; rfl))
        go_wp2_with fail
        refine wp_region_held_drew (S := fun V => V.cell? ⟨w.heap.size, 2, none⟩ = some (.slice (some ⟨b, off, none⟩) n c) ∧ V.cell? ⟨b, off + k, none⟩ = some (.int .i64 z)) (by kernel_rfl) S0 (fun hHeld => ?_)
        refine take_slotC (i := 0) (d := some 11) (v := .pointer (some ⟨w.heap.size, 2, none⟩)) rfl (by kernel_rfl) (by kernel_rfl) (by kernel_rfl) (by kernel_rfl) (fun _ _ _ h => h) (.inl ⟨by kernel_rfl, fun V hV => by obtain ⟨hV1, hV2⟩ := hV; go_simp⟩) hHeld ?_
        try simp only [Act.put, List.setIfInBounds_toArray, List.set_cons_zero, List.set_cons_succ]
        refine take_slotC (i := 1) (d := some 12) (v := .slice (some ⟨b, off, none⟩) n c) rfl (by kernel_rfl) (by kernel_rfl) (by kernel_rfl) (by kernel_rfl) (fun _ _ _ h => h) (.inl ⟨by kernel_rfl, fun V hV => by obtain ⟨hV1, hV2⟩ := hV; go_simp⟩) hHeld ?_
        try simp only [Act.put, List.setIfInBounds_toArray, List.set_cons_zero, List.set_cons_succ]
        refine take_slotC (i := 2) (d := some 13) (v := .int .i64 (k : Int)) rfl (by kernel_rfl) (by kernel_rfl) (by kernel_rfl) (by kernel_rfl) (fun _ _ _ h => h) (.inl ⟨by kernel_rfl, fun V hV => by obtain ⟨hV1, hV2⟩ := hV; go_simp⟩) hHeld ?_
        try simp only [Act.put, List.setIfInBounds_toArray, List.set_cons_zero, List.set_cons_succ]
        refine take_slotC (i := 3) (d := some 14) (v := .pointer (some ⟨b, off + k, none⟩)) rfl (by kernel_rfl) (by kernel_rfl) (by kernel_rfl) (by kernel_rfl) (fun _ _ _ h => h) (.inl ⟨by kernel_rfl, fun V hV => by obtain ⟨hV1, hV2⟩ := hV; go_simp⟩) hHeld ?_
        try simp only [Act.put, List.setIfInBounds_toArray, List.set_cons_zero, List.set_cons_succ]
        refine take_slotC (i := 4) (d := some 15) (v := .int .i64 z) rfl (by kernel_rfl) (by kernel_rfl) (by kernel_rfl) (by kernel_rfl) (fun _ _ _ h => h) (.inl ⟨by kernel_rfl, fun V hV => by obtain ⟨hV1, hV2⟩ := hV; go_simp⟩) hHeld ?_
        try simp only [Act.put, List.setIfInBounds_toArray, List.set_cons_zero, List.set_cons_succ]
        refine wpAnyH_ready (rs := [5]) (by kernel_rfl) (by simp) (AllReadyH.cons (i := 5) rfl (fun K' hK' => ?_) AllReadyH.nil)
        go_simp
        refine (HBI.out _).mono ?_
        rintro e w' ⟨rfl, rfl⟩
        refine hK'.out _ _ hHeld (fun hHeld => ?_)
        clear hK'
        try simp only [Act.put, List.setIfInBounds_toArray, List.set_cons_zero, List.set_cons_succ]
        refine take_slotC (i := 6) (d := some 17) (v := .bool true) rfl (by kernel_rfl) (by kernel_rfl) (by kernel_rfl) (by kernel_rfl) (fun _ _ _ h => h) (.inl ⟨by kernel_rfl, fun V hV => by obtain ⟨hV1, hV2⟩ := hV; go_simp⟩) hHeld ?_
        try simp only [Act.put, List.setIfInBounds_toArray, List.set_cons_zero, List.set_cons_succ]
        refine take_slotC (i := 7) (d := some 18) (v := .bool true) rfl (by kernel_rfl) (by kernel_rfl) (by kernel_rfl) (by kernel_rfl) (fun _ _ _ h => h) (.inl ⟨by kernel_rfl, fun V hV => by obtain ⟨hV1, hV2⟩ := hV; go_simp⟩) hHeld ?_
        try simp only [Act.put, List.setIfInBounds_toArray, List.set_cons_zero, List.set_cons_succ]
        refine take_slotC (i := 8) (d := some 19) (v := undef) rfl (by kernel_rfl) (by kernel_rfl) (by kernel_rfl) (by kernel_rfl) (fun _ _ _ h => h) (.inr ⟨by kernel_rfl, rfl⟩) hHeld ?_
        try simp only [Act.put, List.setIfInBounds_toArray, List.set_cons_zero, List.set_cons_succ]
        refine take_slotC (i := 9) (d := some 20) (v := undef) rfl (by kernel_rfl) (by kernel_rfl) (by kernel_rfl) (by kernel_rfl) (fun _ _ _ h => h) (.inr ⟨by kernel_rfl, rfl⟩) hHeld ?_
        try simp only [Act.put, List.setIfInBounds_toArray, List.set_cons_zero, List.set_cons_succ]
        refine take_slotC (i := 10) (d := some 21) (v := undef) rfl (by kernel_rfl) (by kernel_rfl) (by kernel_rfl) (by kernel_rfl) (fun _ _ _ h => h) (.inr ⟨by kernel_rfl, rfl⟩) hHeld ?_
        try simp only [Act.put, List.setIfInBounds_toArray, List.set_cons_zero, List.set_cons_succ]
        refine take_slotC (i := 11) (d := some 22) (v := undef) rfl (by kernel_rfl) (by kernel_rfl) (by kernel_rfl) (by kernel_rfl) (fun _ _ _ h => h) (.inr ⟨by kernel_rfl, rfl⟩) hHeld ?_
        try simp only [Act.put, List.setIfInBounds_toArray, List.set_cons_zero, List.set_cons_succ]
        refine take_slotC (i := 12) (d := some 23) (v := undef) rfl (by kernel_rfl) (by kernel_rfl) (by kernel_rfl) (by kernel_rfl) (fun _ _ _ h => h) (.inr ⟨by kernel_rfl, rfl⟩) hHeld ?_
        try simp only [Act.put, List.setIfInBounds_toArray, List.set_cons_zero, List.set_cons_succ]
        refine take_slotC (i := 13) (d := some 24) (v := undef) rfl (by kernel_rfl) (by kernel_rfl) (by kernel_rfl) (by kernel_rfl) (fun _ _ _ h => h) (.inr ⟨by kernel_rfl, rfl⟩) hHeld ?_
        try simp only [Act.put, List.setIfInBounds_toArray, List.set_cons_zero, List.set_cons_succ]
        refine take_slotC (i := 14) (d := some 25) (v := undef) rfl (by kernel_rfl) (by kernel_rfl) (by kernel_rfl) (by kernel_rfl) (fun _ _ _ h => h) (.inr ⟨by kernel_rfl, rfl⟩) hHeld ?_
        try simp only [Act.put, List.setIfInBounds_toArray, List.set_cons_zero, List.set_cons_succ]
        refine take_slotC (i := 15) (d := some 26) (v := undef) rfl (by kernel_rfl) (by kernel_rfl) (by kernel_rfl) (by kernel_rfl) (fun _ _ _ h => h) (.inr ⟨by kernel_rfl, rfl⟩) hHeld ?_
        try simp only [Act.put, List.setIfInBounds_toArray, List.set_cons_zero, List.set_cons_succ]
        refine take_slotC (i := 16) (d := some 27) (v := undef) rfl (by kernel_rfl) (by kernel_rfl) (by kernel_rfl) (by kernel_rfl) (fun _ _ _ h => h) (.inr ⟨by kernel_rfl, rfl⟩) hHeld ?_
        try simp only [Act.put, List.setIfInBounds_toArray, List.set_cons_zero, List.set_cons_succ]
        refine take_slotC (i := 17) (d := some 28) (v := undef) rfl (by kernel_rfl) (by kernel_rfl) (by kernel_rfl) (by kernel_rfl) (fun _ _ _ h => h) (.inr ⟨by kernel_rfl, rfl⟩) hHeld ?_
        try simp only [Act.put, List.setIfInBounds_toArray, List.set_cons_zero, List.set_cons_succ]
        refine take_slotC (i := 18) (d := some 29) (v := .bool true) rfl (by kernel_rfl) (by kernel_rfl) (by kernel_rfl) (by kernel_rfl) (fun _ _ _ h => h) (.inl ⟨by kernel_rfl, fun V hV => by obtain ⟨hV1, hV2⟩ := hV; go_simp⟩) hHeld ?_
        try simp only [Act.put, List.setIfInBounds_toArray, List.set_cons_zero, List.set_cons_succ]
        refine wpAnyH_done (by kernel_rfl) ?_ _
        go_wp2_with fail
        go_ret
        exact ⟨ret_bool hr.out.symm, hC2.out⟩
      · cases hb
        · have hd' : Hid (diffTo cs (k + 1) = true) := by show _ = _; rw [hs1.out]; rfl
          go_wp2_with fail
          refine wp_region_held_drew (S := fun V => V.cell? ⟨w.heap.size, 2, none⟩ = some (.slice (some ⟨b, off, none⟩) n c) ∧ V.cell? ⟨b, off + k, none⟩ = some (.int .i64 z)) (by kernel_rfl) S0 (fun hHeld => ?_)
          refine take_slotC (i := 0) (d := some 11) (v := .pointer (some ⟨w.heap.size, 2, none⟩)) rfl (by kernel_rfl) (by kernel_rfl) (by kernel_rfl) (by kernel_rfl) (fun _ _ _ h => h) (.inl ⟨by kernel_rfl, fun V hV => by obtain ⟨hV1, hV2⟩ := hV; go_simp⟩) hHeld ?_
          try simp only [Act.put, List.setIfInBounds_toArray, List.set_cons_zero, List.set_cons_succ]
          refine take_slotC (i := 1) (d := some 12) (v := .slice (some ⟨b, off, none⟩) n c) rfl (by kernel_rfl) (by kernel_rfl) (by kernel_rfl) (by kernel_rfl) (fun _ _ _ h => h) (.inl ⟨by kernel_rfl, fun V hV => by obtain ⟨hV1, hV2⟩ := hV; go_simp⟩) hHeld ?_
          try simp only [Act.put, List.setIfInBounds_toArray, List.set_cons_zero, List.set_cons_succ]
          refine take_slotC (i := 2) (d := some 13) (v := .int .i64 (k : Int)) rfl (by kernel_rfl) (by kernel_rfl) (by kernel_rfl) (by kernel_rfl) (fun _ _ _ h => h) (.inl ⟨by kernel_rfl, fun V hV => by obtain ⟨hV1, hV2⟩ := hV; go_simp⟩) hHeld ?_
          try simp only [Act.put, List.setIfInBounds_toArray, List.set_cons_zero, List.set_cons_succ]
          refine take_slotC (i := 3) (d := some 14) (v := .pointer (some ⟨b, off + k, none⟩)) rfl (by kernel_rfl) (by kernel_rfl) (by kernel_rfl) (by kernel_rfl) (fun _ _ _ h => h) (.inl ⟨by kernel_rfl, fun V hV => by obtain ⟨hV1, hV2⟩ := hV; go_simp⟩) hHeld ?_
          try simp only [Act.put, List.setIfInBounds_toArray, List.set_cons_zero, List.set_cons_succ]
          refine take_slotC (i := 4) (d := some 15) (v := .int .i64 z) rfl (by kernel_rfl) (by kernel_rfl) (by kernel_rfl) (by kernel_rfl) (fun _ _ _ h => h) (.inl ⟨by kernel_rfl, fun V hV => by obtain ⟨hV1, hV2⟩ := hV; go_simp⟩) hHeld ?_
          try simp only [Act.put, List.setIfInBounds_toArray, List.set_cons_zero, List.set_cons_succ]
          refine wpAnyH_ready (rs := [5]) (by kernel_rfl) (by simp) (AllReadyH.cons (i := 5) rfl (fun K' hK' => ?_) AllReadyH.nil)
          go_simp
          refine (HBI.out _).mono ?_
          rintro e w' ⟨rfl, rfl⟩
          refine hK'.out _ _ hHeld (fun hHeld => ?_)
          clear hK'
          try simp only [Act.put, List.setIfInBounds_toArray, List.set_cons_zero, List.set_cons_succ]
          refine take_slotC (i := 6) (d := some 17) (v := .bool false) rfl (by kernel_rfl) (by kernel_rfl) (by kernel_rfl) (by kernel_rfl) (fun _ _ _ h => h) (.inl ⟨by kernel_rfl, fun V hV => by obtain ⟨hV1, hV2⟩ := hV; go_simp⟩) hHeld ?_
          try simp only [Act.put, List.setIfInBounds_toArray, List.set_cons_zero, List.set_cons_succ]
          refine take_slotC (i := 7) (d := some 18) (v := .bool false) rfl (by kernel_rfl) (by kernel_rfl) (by kernel_rfl) (by kernel_rfl) (fun _ _ _ h => h) (.inl ⟨by kernel_rfl, fun V hV => by obtain ⟨hV1, hV2⟩ := hV; go_simp⟩) hHeld ?_
          try simp only [Act.put, List.setIfInBounds_toArray, List.set_cons_zero, List.set_cons_succ]
          refine take_slotC (i := 8) (d := some 19) (v := .pointer (some ⟨w.heap.size, 2, none⟩)) rfl (by kernel_rfl) (by kernel_rfl) (by kernel_rfl) (by kernel_rfl) (fun _ _ _ h => h) (.inl ⟨by kernel_rfl, fun V hV => by obtain ⟨hV1, hV2⟩ := hV; go_simp⟩) hHeld ?_
          try simp only [Act.put, List.setIfInBounds_toArray, List.set_cons_zero, List.set_cons_succ]
          refine take_slotC (i := 9) (d := some 20) (v := .slice (some ⟨b, off, none⟩) n c) rfl (by kernel_rfl) (by kernel_rfl) (by kernel_rfl) (by kernel_rfl) (fun _ _ _ h => h) (.inl ⟨by kernel_rfl, fun V hV => by obtain ⟨hV1, hV2⟩ := hV; go_simp⟩) hHeld ?_
          try simp only [Act.put, List.setIfInBounds_toArray, List.set_cons_zero, List.set_cons_succ]
          refine take_slotC (i := 10) (d := some 21) (v := .int .i64 (k : Int)) rfl (by kernel_rfl) (by kernel_rfl) (by kernel_rfl) (by kernel_rfl) (fun _ _ _ h => h) (.inl ⟨by kernel_rfl, fun V hV => by obtain ⟨hV1, hV2⟩ := hV; go_simp⟩) hHeld ?_
          try simp only [Act.put, List.setIfInBounds_toArray, List.set_cons_zero, List.set_cons_succ]
          refine take_slotC (i := 11) (d := some 22) (v := .slice (some ⟨b, off, none⟩) k c) rfl (by kernel_rfl) (by kernel_rfl) (by kernel_rfl) (by kernel_rfl) (fun _ _ _ h => h) (.inl ⟨by kernel_rfl, fun V hV => by obtain ⟨hV1, hV2⟩ := hV; go_simp⟩) hHeld ?_
          try simp only [Act.put, List.setIfInBounds_toArray, List.set_cons_zero, List.set_cons_succ]
          refine take_slotC (i := 12) (d := some 23) (v := .pointer (some ⟨w.heap.size, 2, none⟩)) rfl (by kernel_rfl) (by kernel_rfl) (by kernel_rfl) (by kernel_rfl) (fun _ _ _ h => h) (.inl ⟨by kernel_rfl, fun V hV => by obtain ⟨hV1, hV2⟩ := hV; go_simp⟩) hHeld ?_
          try simp only [Act.put, List.setIfInBounds_toArray, List.set_cons_zero, List.set_cons_succ]
          refine take_slotC (i := 13) (d := some 24) (v := .slice (some ⟨b, off, none⟩) n c) rfl (by kernel_rfl) (by kernel_rfl) (by kernel_rfl) (by kernel_rfl) (fun _ _ _ h => h) (.inl ⟨by kernel_rfl, fun V hV => by obtain ⟨hV1, hV2⟩ := hV; go_simp⟩) hHeld ?_
          try simp only [Act.put, List.setIfInBounds_toArray, List.set_cons_zero, List.set_cons_succ]
          refine take_slotC (i := 14) (d := some 25) (v := .int .i64 (k : Int)) rfl (by kernel_rfl) (by kernel_rfl) (by kernel_rfl) (by kernel_rfl) (fun _ _ _ h => h) (.inl ⟨by kernel_rfl, fun V hV => by obtain ⟨hV1, hV2⟩ := hV; go_simp⟩) hHeld ?_
          try simp only [Act.put, List.setIfInBounds_toArray, List.set_cons_zero, List.set_cons_succ]
          refine take_slotC (i := 15) (d := some 26) (v := .pointer (some ⟨b, off + k, none⟩)) rfl (by kernel_rfl) (by kernel_rfl) (by kernel_rfl) (by kernel_rfl) (fun _ _ _ h => h) (.inl ⟨by kernel_rfl, fun V hV => by obtain ⟨hV1, hV2⟩ := hV; go_simp⟩) hHeld ?_
          try simp only [Act.put, List.setIfInBounds_toArray, List.set_cons_zero, List.set_cons_succ]
          refine take_slotC (i := 16) (d := some 27) (v := .int .i64 z) rfl (by kernel_rfl) (by kernel_rfl) (by kernel_rfl) (by kernel_rfl) (fun _ _ _ h => h) (.inl ⟨by kernel_rfl, fun V hV => by obtain ⟨hV1, hV2⟩ := hV; go_simp⟩) hHeld ?_
          try simp only [Act.put, List.setIfInBounds_toArray, List.set_cons_zero, List.set_cons_succ]
          refine wpAnyH_ready (rs := [17]) (by kernel_rfl) (by simp) (AllReadyH.cons (i := 17) rfl (fun K' hK' => ?_) AllReadyH.nil)
          go_simp
          refine (hHas.out _ (Chg.of_drew ⟨1, rfl⟩ 0 0)).mono ?_
          rintro e w' ⟨rfl, rfl⟩
          refine hK'.out _ _ hHeld (fun hHeld => ?_)
          clear hK'
          try simp only [Act.put, List.setIfInBounds_toArray, List.set_cons_zero, List.set_cons_succ]
          refine take_slotC (i := 18) (d := some 29) (v := .bool false) rfl (by kernel_rfl) (by kernel_rfl) (by kernel_rfl) (by kernel_rfl) (fun _ _ _ h => h) (.inl ⟨by kernel_rfl, fun V hV => by obtain ⟨hV1, hV2⟩ := hV; go_simp⟩) hHeld ?_
          try simp only [Act.put, List.setIfInBounds_toArray, List.set_cons_zero, List.set_cons_succ]
          refine wpAnyH_done (by kernel_rfl) ?_ _
          go_wp2_with fail
          go_roundw
          case rel => exact ⟨k + 1, by omega, by go_num, hd'.out, hB2.out, hR2.out, hC2.out⟩
          case measure => simp [intOf]; omega
        · have hr := Lib.hid (hno.out (by rw [hs1.out]; rfl))
          go_wp2_with fail
          refine wp_region_held_drew (S := fun V => V.cell? ⟨w.heap.size, 2, none⟩ = some (.slice (some ⟨b, off, none⟩) n c) ∧ V.cell? ⟨b, off + k, none⟩ = some (.int .i64 z)) (by kernel_rfl) S0 (fun hHeld => ?_)
          refine take_slotC (i := 0) (d := some 11) (v := .pointer (some ⟨w.heap.size, 2, none⟩)) rfl (by kernel_rfl) (by kernel_rfl) (by kernel_rfl) (by kernel_rfl) (fun _ _ _ h => h) (.inl ⟨by kernel_rfl, fun V hV => by obtain ⟨hV1, hV2⟩ := hV; go_simp⟩) hHeld ?_
          try simp only [Act.put, List.setIfInBounds_toArray, List.set_cons_zero, List.set_cons_succ]
          refine take_slotC (i := 1) (d := some 12) (v := .slice (some ⟨b, off, none⟩) n c) rfl (by kernel_rfl) (by kernel_rfl) (by kernel_rfl) (by kernel_rfl) (fun _ _ _ h => h) (.inl ⟨by kernel_rfl, fun V hV => by obtain ⟨hV1, hV2⟩ := hV; go_simp⟩) hHeld ?_
          try simp only [Act.put, List.setIfInBounds_toArray, List.set_cons_zero, List.set_cons_succ]
          refine take_slotC (i := 2) (d := some 13) (v := .int .i64 (k : Int)) rfl (by kernel_rfl) (by kernel_rfl) (by kernel_rfl) (by kernel_rfl) (fun _ _ _ h => h) (.inl ⟨by kernel_rfl, fun V hV => by obtain ⟨hV1, hV2⟩ := hV; go_simp⟩) hHeld ?_
          try simp only [Act.put, List.setIfInBounds_toArray, List.set_cons_zero, List.set_cons_succ]
          refine take_slotC (i := 3) (d := some 14) (v := .pointer (some ⟨b, off + k, none⟩)) rfl (by kernel_rfl) (by kernel_rfl) (by kernel_rfl) (by kernel_rfl) (fun _ _ _ h => h) (.inl ⟨by kernel_rfl, fun V hV => by obtain ⟨hV1, hV2⟩ := hV; go_simp⟩) hHeld ?_
          try simp only [Act.put, List.setIfInBounds_toArray, List.set_cons_zero, List.set_cons_succ]
          refine take_slotC (i := 4) (d := some 15) (v := .int .i64 z) rfl (by kernel_rfl) (by kernel_rfl) (by kernel_rfl) (by kernel_rfl) (fun _ _ _ h => h) (.inl ⟨by kernel_rfl, fun V hV => by obtain ⟨hV1, hV2⟩ := hV; go_simp⟩) hHeld ?_
          try simp only [Act.put, List.setIfInBounds_toArray, List.set_cons_zero, List.set_cons_succ]
          refine wpAnyH_ready (rs := [5]) (by kernel_rfl) (by simp) (AllReadyH.cons (i := 5) rfl (fun K' hK' => ?_) AllReadyH.nil)
          go_simp
          refine (HBI.out _).mono ?_
          rintro e w' ⟨rfl, rfl⟩
          refine hK'.out _ _ hHeld (fun hHeld => ?_)
          clear hK'
          try simp only [Act.put, List.setIfInBounds_toArray, List.set_cons_zero, List.set_cons_succ]
          refine take_slotC (i := 6) (d := some 17) (v := .bool false) rfl (by kernel_rfl) (by kernel_rfl) (by kernel_rfl) (by kernel_rfl) (fun _ _ _ h => h) (.inl ⟨by kernel_rfl, fun V hV => by obtain ⟨hV1, hV2⟩ := hV; go_simp⟩) hHeld ?_
          try simp only [Act.put, List.setIfInBounds_toArray, List.set_cons_zero, List.set_cons_succ]
          refine take_slotC (i := 7) (d := some 18) (v := .bool false) rfl (by kernel_rfl) (by kernel_rfl) (by kernel_rfl) (by kernel_rfl) (fun _ _ _ h => h) (.inl ⟨by kernel_rfl, fun V hV => by obtain ⟨hV1, hV2⟩ := hV; go_simp⟩) hHeld ?_
          try simp only [Act.put, List.setIfInBounds_toArray, List.set_cons_zero, List.set_cons_succ]
          refine take_slotC (i := 8) (d := some 19) (v := .pointer (some ⟨w.heap.size, 2, none⟩)) rfl (by kernel_rfl) (by kernel_rfl) (by kernel_rfl) (by kernel_rfl) (fun _ _ _ h => h) (.inl ⟨by kernel_rfl, fun V hV => by obtain ⟨hV1, hV2⟩ := hV; go_simp⟩) hHeld ?_
          try simp only [Act.put, List.setIfInBounds_toArray, List.set_cons_zero, List.set_cons_succ]
          refine take_slotC (i := 9) (d := some 20) (v := .slice (some ⟨b, off, none⟩) n c) rfl (by kernel_rfl) (by kernel_rfl) (by kernel_rfl) (by kernel_rfl) (fun _ _ _ h => h) (.inl ⟨by kernel_rfl, fun V hV => by obtain ⟨hV1, hV2⟩ := hV; go_simp⟩) hHeld ?_
          try simp only [Act.put, List.setIfInBounds_toArray, List.set_cons_zero, List.set_cons_succ]
          refine take_slotC (i := 10) (d := some 21) (v := .int .i64 (k : Int)) rfl (by kernel_rfl) (by kernel_rfl) (by kernel_rfl) (by kernel_rfl) (fun _ _ _ h => h) (.inl ⟨by kernel_rfl, fun V hV => by obtain ⟨hV1, hV2⟩ := hV; go_simp⟩) hHeld ?_
          try simp only [Act.put, List.setIfInBounds_toArray, List.set_cons_zero, List.set_cons_succ]
          refine take_slotC (i := 11) (d := some 22) (v := .slice (some ⟨b, off, none⟩) k c) rfl (by kernel_rfl) (by kernel_rfl) (by kernel_rfl) (by kernel_rfl) (fun _ _ _ h => h) (.inl ⟨by kernel_rfl, fun V hV => by obtain ⟨hV1, hV2⟩ := hV; go_simp⟩) hHeld ?_
          try simp only [Act.put, List.setIfInBounds_toArray, List.set_cons_zero, List.set_cons_succ]
          refine take_slotC (i := 12) (d := some 23) (v := .pointer (some ⟨w.heap.size, 2, none⟩)) rfl (by kernel_rfl) (by kernel_rfl) (by kernel_rfl) (by kernel_rfl) (fun _ _ _ h => h) (.inl ⟨by kernel_rfl, fun V hV => by obtain ⟨hV1, hV2⟩ := hV; go_simp⟩) hHeld ?_
          try simp only [Act.put, List.setIfInBounds_toArray, List.set_cons_zero, List.set_cons_succ]
          refine take_slotC (i := 13) (d := some 24) (v := .slice (some ⟨b, off, none⟩) n c) rfl (by kernel_rfl) (by kernel_rfl) (by kernel_rfl) (by kernel_rfl) (fun _ _ _ h => h) (.inl ⟨by kernel_rfl, fun V hV => by obtain ⟨hV1, hV2⟩ := hV; go_simp⟩) hHeld ?_
          try simp only [Act.put, List.setIfInBounds_toArray, List.set_cons_zero, List.set_cons_succ]
          refine take_slotC (i := 14) (d := some 25) (v := .int .i64 (k : Int)) rfl (by kernel_rfl) (by kernel_rfl) (by kernel_rfl) (by kernel_rfl) (fun _ _ _ h => h) (.inl ⟨by kernel_rfl, fun V hV => by obtain ⟨hV1, hV2⟩ := hV; go_simp⟩) hHeld ?_
          try simp only [Act.put, List.setIfInBounds_toArray, List.set_cons_zero, List.set_cons_succ]
          refine take_slotC (i := 15) (d := some 26) (v := .pointer (some ⟨b, off + k, none⟩)) rfl (by kernel_rfl) (by kernel_rfl) (by kernel_rfl) (by kernel_rfl) (fun _ _ _ h => h) (.inl ⟨by kernel_rfl, fun V hV => by obtain ⟨hV1, hV2⟩ := hV; go_simp⟩) hHeld ?_
          try simp only [Act.put, List.setIfInBounds_toArray, List.set_cons_zero, List.set_cons_succ]
          refine take_slotC (i := 16) (d := some 27) (v := .int .i64 z) rfl (by kernel_rfl) (by kernel_rfl) (by kernel_rfl) (by kernel_rfl) (fun _ _ _ h => h) (.inl ⟨by kernel_rfl, fun V hV => by obtain ⟨hV1, hV2⟩ := hV; go_simp⟩) hHeld ?_
          try simp only [Act.put, List.setIfInBounds_toArray, List.set_cons_zero, List.set_cons_succ]
          refine wpAnyH_ready (rs := [17]) (by kernel_rfl) (by simp) (AllReadyH.cons (i := 17) rfl (fun K' hK' => ?_) AllReadyH.nil)
          go_simp
          refine (hHas.out _ (Chg.of_drew ⟨1, rfl⟩ 0 0)).mono ?_
          rintro e w' ⟨rfl, rfl⟩
          refine hK'.out _ _ hHeld (fun hHeld => ?_)
          clear hK'
          try simp only [Act.put, List.setIfInBounds_toArray, List.set_cons_zero, List.set_cons_succ]
          refine take_slotC (i := 18) (d := some 29) (v := .bool true) rfl (by kernel_rfl) (by kernel_rfl) (by kernel_rfl) (by kernel_rfl) (fun _ _ _ h => h) (.inl ⟨by kernel_rfl, fun V hV => by obtain ⟨hV1, hV2⟩ := hV; go_simp⟩) hHeld ?_
          try simp only [Act.put, List.setIfInBounds_toArray, List.set_cons_zero, List.set_cons_succ]
          refine wpAnyH_done (by kernel_rfl) ?_ _
          go_wp2_with fail
          go_ret
          exact ⟨ret_bool hr.out.symm, hC2.out⟩
    · obtain rfl : k = n := by omega
      have hp := Lib.hid (show R = (inB st 0 4 && (inB ld 0 3 && decide (k ≤ 52))) by rw [HPB.out, hd.out]; simp)
      have q0 := hB.out.p0
      have q1 := hB.out.p1
      clear HPB hlt
      cases h1 : inB st 0 4
      · have hr := Lib.hid (show R = false by rw [hp.out, h1]; rfl)
        go_wp2_with (go_at_call 90; refine (l01In _ _ _ _).mono ?_; rintro e w' ⟨rfl, rfl⟩)
        go_ret
        exact ⟨ret_bool hr.out.symm, hC.out⟩
      · cases h2 : inB ld 0 3
        · have hr := Lib.hid (show R = false by rw [hp.out, h1, h2]; rfl)
          go_wp2_with (go_at_call 90; refine (l01In _ _ _ _).mono ?_; rintro e w' ⟨rfl, rfl⟩)
          go_ret
          exact ⟨ret_bool hr.out.symm, hC.out⟩
        · by_cases h3 : k ≤ 52
          · have hr := Lib.hid (show R = true by rw [hp.out, h1, h2, decide_eq_true h3]; rfl)
            have h3i : (k : Int) ≤ 52 := by omega
            go_wp2_with (go_at_call 90; refine (l01In _ _ _ _).mono ?_; rintro e w' ⟨rfl, rfl⟩)
            go_ret
            exact ⟨ret_bool hr.out.symm, hC.out⟩
          · have hr := Lib.hid (show R = false by rw [hp.out, h1, h2, decide_eq_false h3]; rfl)
            have h3i : decide ((k : Int) ≤ 52) = false := decide_eq_false (by omega)
            go_wp2_with (go_at_call 90; refine (l01In _ _ _ _).mono ?_; rintro e w' ⟨rfl, rfl⟩)
            go_ret
            exact ⟨ret_bool hr.out.symm, hC.out⟩

theorem ret_int8 {a b : Int} (h : a = b) : Ending.returned (.int .i64 a) = .returned (.int .i64 b) := by rw [h]
theorem bestTo_step (st : Int) (t : Nat → Int) {m : Nat} (h : m ≠ 0) : bestTo st t (m + 1) = if t (bestTo st t m) / 13 = t m / 13 then (if t (bestTo st t m) < t m then m else bestTo st t m) else if t m / 13 = st then m else bestTo st t m := by
  rw [bestTo, if_neg h]
set_option maxHeartbeats 4000000 in
/-- spec.l08Winner -/
theorem l08Winner (st ld : Int) (A : Option Addr) (m c : Nat) (ts : List Int) (lo hi : Nat) (w : World) (h : Rd w lo hi A m ts) (hm : m ≤ 1048576) (hz : ∀ j, j < m → 0 ≤ ts.getD j 0 ∧ ts.getD j 0 ≤ 51) (hd : 0 ≤ ld ∧ ld ≤ 3) :
    Calls Try.prog 139 #[.int .i64 st, .int .i64 ld, .slice A m c] w fun e w' => e = .returned (.int .i64 (winV st ld (fun i => ts.getD i 0) m)) ∧ Chg w w' 0 0 := by
  have HT : Hid (winV st ld (fun i => ts.getD i 0) m = (ld + (bestTo st (fun i => ts.getD i 0) m : Int)) % 4) := rfl
  obtain ⟨R, hR⟩ : ∃ R, R = winV st ld (fun i => ts.getD i 0) m := ⟨_, rfl⟩
  rw [← hR] at HT ⊢
  clear hR
  have H := Lib.hid h
  have HZ := Lib.hid hz
  obtain ⟨t, ht⟩ : ∃ t : Nat → Int, t = fun i => ts.getD i 0 := ⟨_, rfl⟩
  rw [← ht] at HT
  have HTT := Lib.hid (show ∀ i, ts.getD i 0 = t i from fun i => by rw [ht])
  obtain ⟨d0, d3⟩ := hd
  clear h hz ht
  go_enter Try.func139, Try.ntmps139
  go_wp2
  go_loopw [7, 8] (fun bb i wr => ∃ k : Nat, 1 ≤ k ∧ (k ≤ m ∨ k = 1) ∧ i = .int .i64 k ∧ bb = .int .i64 (bestTo st t k : Int) ∧ Hid (Chg w wr 0 0)) (fun _ i _ => m + 1 - (intOf i).toNat)
  case atStart => exact ⟨1, Nat.le_refl _, .inr rfl, rfl, rfl, Chg.refl _ _ _⟩
  case round =>
    obtain ⟨k, k1, hk, rfl, rfl, hC⟩ := hrel
    have hb := bestTo_lt st t k
    by_cases hlt : k < m
    · have hR := Lib.hid (H.out.still hC.out)
      obtain ⟨q, off, rfl, _, _, hc⟩ := hR.out.2 (by omega)
      have hkl : (k : Int) < (m : Int) := by omega
      have hst := Lib.hid (bestTo_step st t (m := k) (by omega))
      have c1 := hc k hlt
      have c2 := hc (bestTo st t k) (by omega)
      have z1 := HZ.out k hlt
      have z2 := HZ.out (bestTo st t k) (by omega)
      rw [HTT.out] at c1 c2 z1 z2
      generalize bestTo st t k = p at c2 z2 hst hb
      have hpl : (p : Int) < (m : Int) := by omega
      generalize t k = y at c1 z1 hst
      generalize t p = x at c2 z2 hst
      obtain ⟨y0, y1⟩ := z1
      obtain ⟨x0, x1⟩ := z2
      have hC2 := Lib.hid (hC.out.trans (Chg.of_drew (w := wr) ⟨1, rfl⟩ 0 0))
      clear hc hk
      by_cases e1 : x / 13 = y / 13
      · have b1 : (x / 13 == y / 13) = true := by simpa using e1
        by_cases e2 : x < y
        · have hn := Lib.hid (show bestTo st t (k + 1) = k by rw [hst.out, if_pos e1, if_pos e2])
          clear e1
          go_wp2
          go_region
          all_goals go_wp2
          all_goals go_roundw
          all_goals first
            | exact ⟨k + 1, by omega, .inl (by omega), by go_num, by rw [hn.out], hC2.out⟩
            | (simp [intOf]; omega)
        · have hn := Lib.hid (show bestTo st t (k + 1) = p by rw [hst.out, if_pos e1, if_neg e2])
          clear e1
          go_wp2
          go_region
          all_goals go_wp2
          all_goals go_roundw
          all_goals first
            | exact ⟨k + 1, by omega, .inl (by omega), by go_num, by rw [hn.out], hC2.out⟩
            | (simp [intOf]; omega)
      · have b1 : (x / 13 == y / 13) = false := by simpa using e1
        by_cases e2 : y / 13 = st
        · have b2 : (y / 13 == st) = true := by simpa using e2
          have hn := Lib.hid (show bestTo st t (k + 1) = k by rw [hst.out, if_neg e1, if_pos e2])
          clear e1 e2
          go_wp2
          go_region
          all_goals go_wp2
          all_goals go_roundw
          all_goals first
            | exact ⟨k + 1, by omega, .inl (by omega), by go_num, by rw [hn.out], hC2.out⟩
            | (simp [intOf]; omega)
        · have b2 : (y / 13 == st) = false := by simpa using e2
          have hn := Lib.hid (show bestTo st t (k + 1) = p by rw [hst.out, if_neg e1, if_neg e2])
          clear e1 e2
          go_wp2
          go_region
          all_goals go_wp2
          all_goals go_roundw
          all_goals first
            | exact ⟨k + 1, by omega, .inl (by omega), by go_num, by rw [hn.out], hC2.out⟩
            | (simp [intOf]; omega)
    · have hbm : Hid (bestTo st t k = bestTo st t m) := by
        show _ = _
        by_cases e : m = 0
        · subst e
          obtain rfl : k = 1 := by omega
          rfl
        · obtain rfl : k = m := by omega
          rfl
      have hkl : ¬ (k : Int) < (m : Int) := by omega
      have hr := Lib.hid (show R = (ld + (bestTo st t k : Int)) % 4 by rw [HT.out, hbm.out])
      have hk2 : k ≤ 1048577 := by omega
      generalize bestTo st t k = p at hr hb
      have s0 : 0 ≤ ld + (p : Int) := by omega
      clear hk hbm
      go_wp2
      go_ret
      exact ⟨ret_int8 hr.out.symm, hC.out⟩

set_option maxHeartbeats 8000000 in
/-- spec.l08Leaders -/
theorem l08Leaders (st ld : Int) (A : Option Addr) (n c : Nat) (cs : List Int) (w : World) (h : Rd w 0 w.heap.size A n cs) (hn : n ≤ 1048576) (hcap : n ≤ c) (hz : ∀ j, j < n → 0 ≤ cs.getD j 0 ∧ cs.getD j 0 ≤ 51) (hd : 0 ≤ ld ∧ ld ≤ 3) :
    Calls Try.prog 107 #[.agg #[.int .i64 st, .int .i64 ld, .slice A n c]] w (RetV w (leadL st ld cs (n / 4 + 1))) := by
  have hl := Lib.hid h.1
  have e1 : (w.alloc (.cells #[.int .i64 st, .int .i64 ld, .slice A n c] 29)).heap.size = w.heap.size + 1 := by simp
  have ca := Chg.of_alloc (w.alloc (.cells #[.int .i64 st, .int .i64 ld, .slice A n c] 29)) (.cells #[.int .i64 ld] 2) 0 0
  have cb := Chg.of_alloc w (.cells #[.int .i64 st, .int .i64 ld, .slice A n c] 29) 0 0
  have B0 := Lib.hid ((SBox.new w 29 #[.int .i64 st, .int .i64 ld, .slice A n c]).still ca)
  have O0 := OwnV.one8 (w.alloc (.cells #[.int .i64 st, .int .i64 ld, .slice A n c] 29)) ld (base := w.heap.size + 1) (by rw [e1]; exact Nat.le_refl _)
  rw [e1] at O0
  have K0 := Lib.hid (((Below.refl (w.heap.size + 1) (w.alloc (.cells #[.int .i64 st, .int .i64 ld, .slice A n c] 29)))).alloc (by rw [e1]; exact Nat.le_refl _) (.cells #[.int .i64 ld] 2))
  have H0 := Lib.hid (h.still (cb.trans ca))
  have C0 := Lib.hid (cb.trans ca)
  have HZ := Lib.hid hz
  have OV := Lib.hid O0
  have sz0 := Lib.hid (show w.heap.size + 2 ≤ ((w.alloc (.cells #[.int .i64 st, .int .i64 ld, .slice A n c] 29)).alloc (.cells #[.int .i64 ld] 2)).heap.size by simp)
  have hd0 := hd
  clear ca cb O0 h hz e1
  go_enter Try.func107, Try.ntmps107
  go_wp2_with fail
  generalize (w.alloc (.cells #[.int .i64 st, .int .i64 ld, .slice A n c] 29)).alloc (.cells #[.int .i64 ld] 2) = W at B0 OV H0 C0 sz0 ⊢
  go_loopw [3, 4] (fun u i wr => ∃ j : Nat, j ≤ n / 4 ∧ i = .int .i64 (4 * (j : Int) + 4) ∧ Hid (OwnV wr (w.heap.size + 1) u (leadL st ld cs (j + 1))) ∧ Hid (SBox wr 29 w.heap.size #[.int .i64 st, .int .i64 ld, .slice A n c]) ∧ Hid (Rd wr 0 w.heap.size A n cs) ∧ Hid (Below w.heap.size w wr) ∧ Hid (w.heap.size + 2 ≤ wr.heap.size)) (fun _ i _ => n + 4 - (intOf i).toNat)
  case atStart => exact ⟨0, Nat.zero_le _, rfl, by rw [leadL_succ]; exact OV.out, B0.out, H0.out, C0.out.to_below, sz0.out⟩
  case round =>
    obtain ⟨j, hj, rfl, ho, hB, hR, hK, hsz⟩ := hrel
    have q2 := hB.out.p2
    by_cases hlt : 4 * j + 4 ≤ n
    · obtain ⟨b, off, rfl, _, hbw, hc⟩ := hR.out.2 (by omega)
      have hkl : 4 * (j : Int) + 4 ≤ (n : Int) := by omega
      obtain ⟨U, cu, hu, hcu, hpl, hown⟩ := ho.out.form
      rw [leadL_len] at hu
      subst hu
      have hul := hown.rd
      rw [leadL_len] at hul
      obtain ⟨b2, off2, rfl, hu1, hu2, huc⟩ := hul.2 (by omega)
      have hlast := huc j (by omega)
      rw [leadL_at (by omega)] at hlast
      have hlr := leadT_rng (st := st) hd0 cs j
      have hnx : Hid (leadL st ld cs (j + 1 + 1) = leadL st ld cs (j + 1) ++ [leadT st ld cs (j + 1)]) := leadL_succ _ _ _ _
      have hst : Hid (leadT st ld cs (j + 1) = winV st (leadT st ld cs j) (fun i => cs.getD (4 * j + i) 0) 4) := rfl
      have hsl : Rd wr 0 w.heap.size (some ⟨b, off + 4 * j, none⟩) 4 ((List.range 4).map fun i => cs.getD (4 * j + i) 0) := ⟨by simp, fun _ => ⟨b, off + 4 * j, rfl, Nat.zero_le _, hbw, fun i hi => by
        have := hc (4 * j + i) (by omega)
        rw [Nat.add_assoc]
        rw [this]
        simp [List.getD, hi]⟩⟩
      have hwin := Lib.hid (fun (V : World) (cv : Chg wr V 0 0) => l08Winner st (leadT st ld cs j) (some ⟨b, off + 4 * j, none⟩) 4 (c - 4 * j) ((List.range 4).map fun i => cs.getD (4 * j + i) 0) 0 w.heap.size V (hsl.still cv) (by omega) (fun i hi => by
        have := HZ.out (4 * j + i) (by omega)
        simpa [List.getD, hi] using this) hlr)
      have hwe : Hid (winV st (leadT st ld cs j) (fun i => ((List.range 4).map fun i => cs.getD (4 * j + i) 0).getD i 0) 4 = leadT st ld cs (j + 1)) := by
        show _ = _
        rw [hst.out]
        unfold winV
        rw [bestTo_congr (u := fun i => cs.getD (4 * j + i) 0) 4 (fun i hi => by simp [List.getD, hi])]
      rw [hwe.out] at hwin
      have hlen : (leadL st ld cs (j + 1)).length + 1 ≤ 1048577 := by rw [leadL_len]; omega
      have q0 := hB.out.p0
      generalize leadT st ld cs j = lj at hlast hwin hlr
      generalize leadT st ld cs (j + 1) = ln at hwin hnx
      have S0 : SBox wr.drew 29 w.heap.size #[.int .i64 st, .int .i64 ld, .slice (some ⟨b, off, none⟩) n c] := hB.out.still (Chg.of_drew ⟨1, rfl⟩ 0 0)
      have hl8 : wr.drew.cell? ⟨b2, off2 + j, none⟩ = some (.int .i64 lj) := hlast
      have cd : Chg wr wr.drew 0 0 := Chg.of_drew ⟨1, rfl⟩ 0 0
      have j0 : 0 ≤ 4 * (j : Int) := by omega
      have j1 : ¬ (j : Int) + 1 ≤ (j : Int) := by omega
      have j2 : IntKind.i64.wrap (j : Int) = (j : Int) := by rw [IntKind.wrap_i64]; omega
      have j3 : IntKind.i64.wrap (4 * (j : Int)) = 4 * (j : Int) := by rw [IntKind.wrap_i64]; omega
      have j4 : max (4 * (j : Int) + 4) 0 = 4 * (j : Int) + 4 := by omega
      have j5 : 4 * (j : Int) ≤ 4 * (j : Int) + 4 := by omega
      have j6 : (4 * (j : Int)).toNat = 4 * j := by omega
      have j7 : (4 * (j : Int) + 4).toNat = 4 * j + 4 := by omega
      have j8 : 0 ≤ 4 * (j : Int) + 4 := by omega
      have j9 : 4 * (j : Int) + 4 ≤ (c : Int) := by omega
      have j10 : ¬ c = 4 * j := by omega
      clear hc huc hul hown hsl hwe hst q0
      go_wp2_with fail
      refine wp_region_held_drew (S := fun V => SBox V 29 w.heap.size #[.int .i64 st, .int .i64 ld, .slice (some ⟨b, off, none⟩) n c]) (by kernel_rfl) S0 (fun hHeld => ?_)
      refine take_slotC (i := 0) (d := some 15) (v := .slice (some ⟨b2, off2, none⟩) (j + 1) cu) rfl (by kernel_rfl) (by kernel_rfl) (by kernel_rfl) (by kernel_rfl) (fun _ _ _ h => h) (.inl ⟨by kernel_rfl, fun V hV => by have hV1 := SBox.p0 hV; have hV2 := SBox.p2 hV; go_simp⟩) hHeld ?_
      try simp only [Act.put, List.setIfInBounds_toArray, List.set_cons_zero, List.set_cons_succ]
      refine take_slotC (i := 1) (d := some 16) (v := .pointer (some ⟨w.heap.size, 0, none⟩)) rfl (by kernel_rfl) (by kernel_rfl) (by kernel_rfl) (by kernel_rfl) (fun _ _ _ h => h) (.inl ⟨by kernel_rfl, fun V hV => by have hV1 := SBox.p0 hV; have hV2 := SBox.p2 hV; go_simp⟩) hHeld ?_
      try simp only [Act.put, List.setIfInBounds_toArray, List.set_cons_zero, List.set_cons_succ]
      refine take_slotC (i := 2) (d := some 17) (v := .int .i64 st) rfl (by kernel_rfl) (by kernel_rfl) (by kernel_rfl) (by kernel_rfl) (fun _ _ _ h => h) (.inl ⟨by kernel_rfl, fun V hV => by have hV1 := SBox.p0 hV; have hV2 := SBox.p2 hV; go_simp⟩) hHeld ?_
      try simp only [Act.put, List.setIfInBounds_toArray, List.set_cons_zero, List.set_cons_succ]
      refine take_slotC (i := 3) (d := some 18) (v := .slice (some ⟨b2, off2, none⟩) (j + 1) cu) rfl (by kernel_rfl) (by kernel_rfl) (by kernel_rfl) (by kernel_rfl) (fun _ _ _ h => h) (.inl ⟨by kernel_rfl, fun V hV => by have hV1 := SBox.p0 hV; have hV2 := SBox.p2 hV; go_simp⟩) hHeld ?_
      try simp only [Act.put, List.setIfInBounds_toArray, List.set_cons_zero, List.set_cons_succ]
      refine take_slotC (i := 4) (d := some 19) (v := .slice (some ⟨b2, off2, none⟩) (j + 1) cu) rfl (by kernel_rfl) (by kernel_rfl) (by kernel_rfl) (by kernel_rfl) (fun _ _ _ h => h) (.inl ⟨by kernel_rfl, fun V hV => by have hV1 := SBox.p0 hV; have hV2 := SBox.p2 hV; go_simp⟩) hHeld ?_
      try simp only [Act.put, List.setIfInBounds_toArray, List.set_cons_zero, List.set_cons_succ]
      refine take_slotC (i := 5) (d := some 20) (v := .int .i64 ((j : Int) + 1)) rfl (by kernel_rfl) (by kernel_rfl) (by kernel_rfl) (by kernel_rfl) (fun _ _ _ h => h) (.inl ⟨by kernel_rfl, fun V hV => by have hV1 := SBox.p0 hV; have hV2 := SBox.p2 hV; go_simp⟩) hHeld ?_
      try simp only [Act.put, List.setIfInBounds_toArray, List.set_cons_zero, List.set_cons_succ]
      refine take_slotC (i := 6) (d := some 21) (v := .int .i64 (j : Int)) rfl (by kernel_rfl) (by kernel_rfl) (by kernel_rfl) (by kernel_rfl) (fun _ _ _ h => h) (.inl ⟨by kernel_rfl, fun V hV => by have hV1 := SBox.p0 hV; have hV2 := SBox.p2 hV; go_simp⟩) hHeld ?_
      try simp only [Act.put, List.setIfInBounds_toArray, List.set_cons_zero, List.set_cons_succ]
      refine take_slotC (i := 7) (d := some 22) (v := .pointer (some ⟨b2, off2 + j, none⟩)) rfl (by kernel_rfl) (by kernel_rfl) (by kernel_rfl) (by kernel_rfl) (fun _ _ _ h => h) (.inl ⟨by kernel_rfl, fun V hV => by have hV1 := SBox.p0 hV; have hV2 := SBox.p2 hV; go_simp⟩) hHeld ?_
      try simp only [Act.put, List.setIfInBounds_toArray, List.set_cons_zero, List.set_cons_succ]
      refine take_slotC (i := 9) (d := some 24) (v := .pointer (some ⟨w.heap.size, 2, none⟩)) rfl (by kernel_rfl) (by kernel_rfl) (by kernel_rfl) (by kernel_rfl) (fun _ _ _ h => h) (.inl ⟨by kernel_rfl, fun V hV => by have hV1 := SBox.p0 hV; have hV2 := SBox.p2 hV; go_simp⟩) hHeld ?_
      try simp only [Act.put, List.setIfInBounds_toArray, List.set_cons_zero, List.set_cons_succ]
      refine take_slotC (i := 10) (d := some 25) (v := .slice (some ⟨b, off, none⟩) n c) rfl (by kernel_rfl) (by kernel_rfl) (by kernel_rfl) (by kernel_rfl) (fun _ _ _ h => h) (.inl ⟨by kernel_rfl, fun V hV => by have hV1 := SBox.p0 hV; have hV2 := SBox.p2 hV; go_simp⟩) hHeld ?_
      try simp only [Act.put, List.setIfInBounds_toArray, List.set_cons_zero, List.set_cons_succ]
      refine take_slotC (i := 11) (d := some 26) (v := .int .i64 (4 * (j : Int) + 4)) rfl (by kernel_rfl) (by kernel_rfl) (by kernel_rfl) (by kernel_rfl) (fun _ _ _ h => h) (.inl ⟨by kernel_rfl, fun V hV => by have hV1 := SBox.p0 hV; have hV2 := SBox.p2 hV; go_simp⟩) hHeld ?_
      try simp only [Act.put, List.setIfInBounds_toArray, List.set_cons_zero, List.set_cons_succ]
      refine take_slotC (i := 12) (d := some 27) (v := .int .i64 (4 * (j : Int))) rfl (by kernel_rfl) (by kernel_rfl) (by kernel_rfl) (by kernel_rfl) (fun _ _ _ h => h) (.inl ⟨by kernel_rfl, fun V hV => by have hV1 := SBox.p0 hV; have hV2 := SBox.p2 hV; go_simp⟩) hHeld ?_
      try simp only [Act.put, List.setIfInBounds_toArray, List.set_cons_zero, List.set_cons_succ]
      refine take_slotC (i := 13) (d := some 28) (v := .int .i64 (4 * (j : Int) + 4)) rfl (by kernel_rfl) (by kernel_rfl) (by kernel_rfl) (by kernel_rfl) (fun _ _ _ h => h) (.inl ⟨by kernel_rfl, fun V hV => by have hV1 := SBox.p0 hV; have hV2 := SBox.p2 hV; go_simp⟩) hHeld ?_
      try simp only [Act.put, List.setIfInBounds_toArray, List.set_cons_zero, List.set_cons_succ]
      refine take_slotC (i := 14) (d := some 29) (v := .slice (some ⟨b, off + 4 * j, none⟩) 4 (c - 4 * j)) rfl (by kernel_rfl) (by kernel_rfl) (by kernel_rfl) (by kernel_rfl) (fun _ _ _ h => h) (.inl ⟨by kernel_rfl, fun V hV => by have hV1 := SBox.p0 hV; have hV2 := SBox.p2 hV; go_simp⟩) hHeld ?_
      try simp only [Act.put, List.setIfInBounds_toArray, List.set_cons_zero, List.set_cons_succ]
      refine wpAnyH_ready (rs := [8]) (by kernel_rfl) (by simp) (AllReadyH.cons (i := 8) rfl (fun K' hK' => ?_) AllReadyH.nil)
      go_simp
      refine hK'.out _ _ hHeld (fun hHeld => ?_)
      clear hK'
      try simp only [Act.put, List.setIfInBounds_toArray, List.set_cons_zero, List.set_cons_succ]
      refine wpAnyH_ready (rs := [15]) (by kernel_rfl) (by simp) (AllReadyH.cons (i := 15) rfl (fun K' hK' => ?_) AllReadyH.nil)
      go_simp
      refine (hwin.out _ cd).mono ?_
      rintro e w5 ⟨rfl, c5⟩
      have c5' := cd.trans c5
      have O5 := Lib.hid (ho.out.chg c5' (Nat.zero_le _))
      have B5 := Lib.hid (hB.out.still c5')
      have R5 := Lib.hid (hR.out.still c5')
      have K5 := Lib.hid (Chg.above hK.out c5' (by have := hsz.out; omega) (.inr rfl))
      have z5 : w.heap.size + 2 ≤ w5.heap.size := by have := c5'.size; have := hsz.out; omega
      clear c5 c5' cd hl8 hlast hwin hpl
      refine hK'.out _ _ B5.out (fun hHeld => ?_)
      clear hK'
      try simp only [Act.put, List.setIfInBounds_toArray, List.set_cons_zero, List.set_cons_succ]
      try simp only [Act.put, List.setIfInBounds_toArray, List.set_cons_zero, List.set_cons_succ]
      refine wpAnyH_ready (rs := [16]) (by kernel_rfl) (by simp) (AllReadyH.cons (i := 16) rfl (fun K' hK' => ?_) AllReadyH.nil)
      go_simp
      have ONE := Lib.hid (heap_alloc_new w5 (.cells #[.int .i64 ln] 2))
      have ca := Chg.of_alloc w5 (.cells #[.int .i64 ln] 2) 0 0
      have O6 := Lib.hid (O5.out.chg ca (Nat.zero_le _))
      have B6 := Lib.hid (B5.out.still ca)
      have R6 := Lib.hid (R5.out.still ca)
      have K6 := Lib.hid (Chg.above K5.out ca (by omega) (.inr rfl))
      have z6 : w.heap.size + 2 ≤ (w5.alloc (.cells #[.int .i64 ln] 2)).heap.size := by have := ca.size; omega
      clear ca O5 B5 R5 K5
      refine hK'.out _ _ B6.out (fun hHeld => ?_)
      clear hK'
      generalize w5.alloc (.cells #[.int .i64 ln] 2) = w6 at ONE O6 B6 R6 K6 z6 hHeld ⊢
      try simp only [Act.put, List.setIfInBounds_toArray, List.set_cons_zero, List.set_cons_succ]
      refine wpAnyH_ready (rs := [17]) (by kernel_rfl) (by simp) (AllReadyH.cons (i := 17) rfl (fun K' hK' => ?_) AllReadyH.nil)
      refine step_cat7 rfl (.tmp 15) (.tmp 31) rfl (w.heap.size + 1) (.slice (some ⟨b2, off2, none⟩) (j + 1) cu) (leadL st ld cs (j + 1)) (by rfl) O6.out 0 _ (some ⟨w5.heap.size, 0, none⟩) 1 1 [ln] (by rfl) (fun h => by cases h) (Rd.one7 ONE.out) hlen (by omega) ?_
      intro u7 w7 o7 b7 _
      have O7 := Lib.hid (show OwnV w7 (w.heap.size + 1) u7 (leadL st ld cs (j + 1 + 1)) by rw [hnx.out]; exact o7)
      have B7 := Lib.hid (show SBox w7 29 w.heap.size #[.int .i64 st, .int .i64 ld, .slice (some ⟨b, off, none⟩) n c] from (b7.block _ (by omega)).trans B6.out)
      have R7 := Lib.hid (R6.out.below b7 (by omega))
      have K7 := Lib.hid (K6.out.trans (b7.mono (by omega)))
      have z7 := Lib.hid (show w.heap.size + 2 ≤ w7.heap.size by have := b7.size; omega)
      refine hK'.out _ _ B7.out (fun hHeld => ?_)
      clear hK' o7 b7
      try simp only [Act.put, List.setIfInBounds_toArray]
      refine take_slotC (i := 18) (d := some 3) (v := u7) rfl (by kernel_rfl) (by kernel_rfl) (by kernel_rfl) (by kernel_rfl) (fun _ _ _ h => h) (.inl ⟨by kernel_rfl, fun V hV => by go_simp⟩) hHeld ?_
      try simp only [Act.put]
      refine wpAnyH_done (by kernel_rfl) ?_ _
      go_wp2_with fail
      go_roundw
      case rel => exact ⟨j + 1, by omega, by go_num, O7.out, B7.out, R7.out, K7.out, z7.out⟩
      case measure => simp [intOf]; omega
    · have hje : j = n / 4 := by omega
      have hkl : ¬ 4 * (j : Int) + 4 ≤ (n : Int) := by omega
      have HJ := Lib.hid hje
      clear hje
      go_wp2_with fail
      go_ret
      exact ⟨_, rfl, by rw [← HJ.out]; exact ho.out.more (by omega), hK.out⟩

set_option maxHeartbeats 4000000 in
/-- spec.l08Turn -/
theorem l08Turn (st ld : Int) (A : Option Addr) (n c : Nat) (cs : List Int) (w : World) (h : Rd w 0 w.heap.size A n cs) (hn : n ≤ 1048576) (hcap : n ≤ c) (hz : ∀ j, j < n → 0 ≤ cs.getD j 0 ∧ cs.getD j 0 ≤ 51) (hd : 0 ≤ ld ∧ ld ≤ 3) :
    Calls Try.prog 72 #[.agg #[.int .i64 st, .int .i64 ld, .slice A n c]] w fun e w' => e = .returned (.int .i64 (turnL st ld cs)) ∧ Chg w w' 0 0 := by
  have hl := h.1
  have HT : Hid (turnL st ld cs = (leadT st ld cs (n / 4) + (n : Int) % 4) % 4) := by show _ = _; unfold turnL; rw [hl, Int.natCast_emod]; rfl
  have B0 := Lib.hid (SBox.new w 29 #[.int .i64 st, .int .i64 ld, .slice A n c])
  have C0 := Lib.hid (Chg.of_alloc w (.cells #[.int .i64 st, .int .i64 ld, .slice A n c] 29) 0 0)
  have z0 : w.heap.size < (w.alloc (.cells #[.int .i64 st, .int .i64 ld, .slice A n c] 29)).heap.size := by simp
  have H := Lib.hid ((h.still C0.out).more (Nat.le_refl 0) (Nat.le_of_lt z0))
  have hlr := leadT_rng (st := st) hd cs (n / 4)
  clear h hl
  go_enter Try.func72, Try.ntmps72
  go_wp2_with (refine wpList_load_row rfl 29 _ rfl w.heap.size rfl 29 #[.int .i64 st, .int .i64 ld, .slice A n c] (0, 0) _ B0.out Try.underlying29 rfl (play_info _ _ _ _ _) ?_)
  generalize w.alloc (.cells #[.int .i64 st, .int .i64 ld, .slice A n c] 29) = W at B0 C0 H z0 ⊢
  refine (l08Leaders st ld A n c cs W H.out hn hcap hz hd).mono ?_
  rintro e w1 ⟨u, rfl, ou, b1⟩
  obtain ⟨U, cu, rfl, hcu, _, hown⟩ := ou.form
  have hul := hown.rd
  rw [leadL_len] at hul ⊢
  obtain ⟨b2, off2, rfl, _, _, huc⟩ := hul.2 (by omega)
  have hlast := huc (n / 4) (by omega)
  rw [leadL_at (by omega)] at hlast
  have c1 : Chg W w1 0 0 := Chg.of_below b1 0 0
  have B1 := Lib.hid (B0.out.still c1)
  have C1 := Lib.hid (C0.out.trans c1)
  obtain ⟨m, hm⟩ : ∃ m, m = n / 4 := ⟨_, rfl⟩
  rw [← hm] at HT hlast hlr ⊢
  have hm2 : m ≤ 1048576 := by omega
  generalize leadT st ld cs m = lj at HT hlast hlr
  obtain ⟨l0, l3⟩ := hlr
  have j1 : ¬ (m : Int) + 1 ≤ (m : Int) := by omega
  have j2 : IntKind.i64.wrap (m : Int) = (m : Int) := by rw [IntKind.wrap_i64]; omega
  have j3 : IntKind.i64.wrap (lj + (n : Int) % 4) = lj + (n : Int) % 4 := by rw [IntKind.wrap_i64]; omega
  have j4 : 0 ≤ lj + (n : Int) % 4 := by omega
  have j5 : Int.tmod (lj + (n : Int) % 4) 4 = (lj + (n : Int) % 4) % 4 := Int.tmod_eq_emod_of_nonneg j4
  have j6 : Int.tmod (n : Int) 4 = (n : Int) % 4 := Int.tmod_eq_emod_of_nonneg (by omega)
  have S0 : w1.drew.cell? ⟨w.heap.size, 2, none⟩ = some (.slice A n c) ∧ w1.drew.cell? ⟨b2, off2 + m, none⟩ = some (.int .i64 lj) := ⟨B1.out.p2, hlast⟩
  clear hm huc hul hown ou b1 c1 B0 C0 H hlast hz
  go_wp2_with fail
  refine wp_region_held_drew (S := fun V => V.cell? ⟨w.heap.size, 2, none⟩ = some (.slice A n c) ∧ V.cell? ⟨b2, off2 + m, none⟩ = some (.int .i64 lj)) (by kernel_rfl) S0 (fun hHeld => ?_)
  refine take_slotC (i := 0) (d := some 6) (v := .slice (some ⟨b2, off2, none⟩) (m + 1) cu) rfl (by kernel_rfl) (by kernel_rfl) (by kernel_rfl) (by kernel_rfl) (fun _ _ _ h => h) (.inl ⟨by kernel_rfl, fun V hV => by obtain ⟨hV1, hV2⟩ := hV; go_simp⟩) hHeld ?_
  try simp only [Act.put, List.setIfInBounds_toArray, List.set_cons_zero, List.set_cons_succ]
  refine take_slotC (i := 1) (d := some 7) (v := .slice (some ⟨b2, off2, none⟩) (m + 1) cu) rfl (by kernel_rfl) (by kernel_rfl) (by kernel_rfl) (by kernel_rfl) (fun _ _ _ h => h) (.inl ⟨by kernel_rfl, fun V hV => by obtain ⟨hV1, hV2⟩ := hV; go_simp⟩) hHeld ?_
  try simp only [Act.put, List.setIfInBounds_toArray, List.set_cons_zero, List.set_cons_succ]
  refine take_slotC (i := 2) (d := some 8) (v := .int .i64 ((m : Int) + 1)) rfl (by kernel_rfl) (by kernel_rfl) (by kernel_rfl) (by kernel_rfl) (fun _ _ _ h => h) (.inl ⟨by kernel_rfl, fun V hV => by obtain ⟨hV1, hV2⟩ := hV; go_simp⟩) hHeld ?_
  try simp only [Act.put, List.setIfInBounds_toArray, List.set_cons_zero, List.set_cons_succ]
  refine take_slotC (i := 3) (d := some 9) (v := .int .i64 (m : Int)) rfl (by kernel_rfl) (by kernel_rfl) (by kernel_rfl) (by kernel_rfl) (fun _ _ _ h => h) (.inl ⟨by kernel_rfl, fun V hV => by obtain ⟨hV1, hV2⟩ := hV; go_simp⟩) hHeld ?_
  try simp only [Act.put, List.setIfInBounds_toArray, List.set_cons_zero, List.set_cons_succ]
  refine take_slotC (i := 4) (d := some 10) (v := .pointer (some ⟨b2, off2 + m, none⟩)) rfl (by kernel_rfl) (by kernel_rfl) (by kernel_rfl) (by kernel_rfl) (fun _ _ _ h => h) (.inl ⟨by kernel_rfl, fun V hV => by obtain ⟨hV1, hV2⟩ := hV; go_simp⟩) hHeld ?_
  try simp only [Act.put, List.setIfInBounds_toArray, List.set_cons_zero, List.set_cons_succ]
  refine take_slotC (i := 5) (d := some 11) (v := .int .i64 lj) rfl (by kernel_rfl) (by kernel_rfl) (by kernel_rfl) (by kernel_rfl) (fun _ _ _ h => h) (.inl ⟨by kernel_rfl, fun V hV => by obtain ⟨hV1, hV2⟩ := hV; go_simp⟩) hHeld ?_
  try simp only [Act.put, List.setIfInBounds_toArray, List.set_cons_zero, List.set_cons_succ]
  refine take_slotC (i := 6) (d := some 12) (v := .pointer (some ⟨w.heap.size, 2, none⟩)) rfl (by kernel_rfl) (by kernel_rfl) (by kernel_rfl) (by kernel_rfl) (fun _ _ _ h => h) (.inl ⟨by kernel_rfl, fun V hV => by obtain ⟨hV1, hV2⟩ := hV; go_simp⟩) hHeld ?_
  try simp only [Act.put, List.setIfInBounds_toArray, List.set_cons_zero, List.set_cons_succ]
  refine take_slotC (i := 7) (d := some 13) (v := .slice A n c) rfl (by kernel_rfl) (by kernel_rfl) (by kernel_rfl) (by kernel_rfl) (fun _ _ _ h => h) (.inl ⟨by kernel_rfl, fun V hV => by obtain ⟨hV1, hV2⟩ := hV; go_simp⟩) hHeld ?_
  try simp only [Act.put, List.setIfInBounds_toArray, List.set_cons_zero, List.set_cons_succ]
  refine take_slotC (i := 8) (d := some 14) (v := .int .i64 (n : Int)) rfl (by kernel_rfl) (by kernel_rfl) (by kernel_rfl) (by kernel_rfl) (fun _ _ _ h => h) (.inl ⟨by kernel_rfl, fun V hV => by obtain ⟨hV1, hV2⟩ := hV; go_simp⟩) hHeld ?_
  try simp only [Act.put, List.setIfInBounds_toArray, List.set_cons_zero, List.set_cons_succ]
  refine take_slotC (i := 9) (d := some 15) (v := .int .i64 ((n : Int) % 4)) rfl (by kernel_rfl) (by kernel_rfl) (by kernel_rfl) (by kernel_rfl) (fun _ _ _ h => h) (.inl ⟨by kernel_rfl, fun V hV => by obtain ⟨hV1, hV2⟩ := hV; go_simp⟩) hHeld ?_
  try simp only [Act.put, List.setIfInBounds_toArray, List.set_cons_zero, List.set_cons_succ]
  refine take_slotC (i := 10) (d := some 16) (v := .int .i64 (lj + (n : Int) % 4)) rfl (by kernel_rfl) (by kernel_rfl) (by kernel_rfl) (by kernel_rfl) (fun _ _ _ h => h) (.inl ⟨by kernel_rfl, fun V hV => by obtain ⟨hV1, hV2⟩ := hV; go_simp⟩) hHeld ?_
  try simp only [Act.put, List.setIfInBounds_toArray, List.set_cons_zero, List.set_cons_succ]
  refine take_slotC (i := 11) (d := some 17) (v := .int .i64 ((lj + (n : Int) % 4) % 4)) rfl (by kernel_rfl) (by kernel_rfl) (by kernel_rfl) (by kernel_rfl) (fun _ _ _ h => h) (.inl ⟨by kernel_rfl, fun V hV => by obtain ⟨hV1, hV2⟩ := hV; go_simp⟩) hHeld ?_
  try simp only [Act.put, List.setIfInBounds_toArray, List.set_cons_zero, List.set_cons_succ]
  refine take_slotC (i := 12) (d := some 2) (v := .int .i64 ((lj + (n : Int) % 4) % 4)) rfl (by kernel_rfl) (by kernel_rfl) (by kernel_rfl) (by kernel_rfl) (fun _ _ _ h => h) (.inl ⟨by kernel_rfl, fun V hV => by obtain ⟨hV1, hV2⟩ := hV; go_simp⟩) hHeld ?_
  try simp only [Act.put, List.setIfInBounds_toArray, List.set_cons_zero, List.set_cons_succ]
  refine wpAnyH_done (by kernel_rfl) ?_ _
  go_wp2_with fail
  go_ret
  exact ⟨ret_int8 HT.out.symm, C1.out.trans (Chg.of_drew ⟨1, rfl⟩ 0 0)⟩

theorem leftL_step (hs cs : List Int) {k : Nat} (h : k < hs.length) : leftL (hs.take (k + 1)) cs = leftL (hs.take k) cs ++ if hasB cs (hs.getD k 0) then [] else [hs.getD k 0] := by
  unfold leftL
  rw [take_filter_succ _ _ _ h]
  cases hasB cs (hs.getD k 0) <;> rfl
theorem deal_infoL (v : Value) : (Try.prog.info? 26).map (·.size) = some ([v] : List Value).length := by kernel_rfl
set_option maxHeartbeats 8000000 in
/-- spec.l08Left -/
theorem l08Left (A' : Option Addr) (n' c' : Nat) (zss : List (List Int)) (st ld : Int) (A : Option Addr) (n c : Nat) (cs : List Int) (s : Nat) (w : World) (hD : RdR w 0 w.heap.size A' n' zss) (hs : s < n') (hr : (zss.getD s []).length ≤ 1048576) (hn' : n' ≤ 1048576) (h : Rd w 0 w.heap.size A n cs) (hn : n ≤ 1048576) :
    Calls Try.prog 110 #[.agg #[.slice A' n' c'], .agg #[.int .i64 st, .int .i64 ld, .slice A n c], .int .i64 (s : Int)] w (RetV w (leftL (zss.getD s []) cs)) := by
  have e1 : (w.alloc (.cells #[.slice A' n' c'] 26)).heap.size = w.heap.size + 1 := by simp
  have e2 : ((w.alloc (.cells #[.slice A' n' c'] 26)).alloc (.cells #[.int .i64 st, .int .i64 ld, .slice A n c] 29)).heap.size = w.heap.size + 1 + 1 := by simp
  have c1 := Chg.of_alloc w (.cells #[.slice A' n' c'] 26) 0 0
  have c2 := Chg.of_alloc (w.alloc (.cells #[.slice A' n' c'] 26)) (.cells #[.int .i64 st, .int .i64 ld, .slice A n c] 29) 0 0
  have c3 := Chg.of_alloc ((w.alloc (.cells #[.slice A' n' c'] 26)).alloc (.cells #[.int .i64 st, .int .i64 ld, .slice A n c] 29)) (.cells #[] 2) 0 0
  have x1 := ((SBox.new w 26 #[.slice A' n' c']).still c2).still c3
  have x2 := (SBox.new (w.alloc (.cells #[.slice A' n' c'] 26)) 29 #[.int .i64 st, .int .i64 ld, .slice A n c]).still c3
  rw [e1] at x2
  have o3 := OwnV.made ((w.alloc (.cells #[.slice A' n' c'] 26)).alloc (.cells #[.int .i64 st, .int .i64 ld, .slice A n c] 29)) (base := w.heap.size + 2) (by rw [e2]; exact Nat.le_refl _)
  rw [e2] at o3
  have C0 := Lib.hid ((c1.trans c2).trans c3)
  have X1 := Lib.hid x1
  have X2 := Lib.hid x2
  have O0 := Lib.hid o3
  have D0 := Lib.hid (hD.still C0.out)
  have H0 := Lib.hid (h.still C0.out)
  have z0 : w.heap.size + 2 < (((w.alloc (.cells #[.slice A' n' c'] 26)).alloc (.cells #[.int .i64 st, .int .i64 ld, .slice A n c] 29)).alloc (.cells #[] 2)).heap.size := by simp
  clear hD h e1 e2 c1 c2 c3 x1 x2 o3
  go_enter Try.func110, Try.ntmps110
  go_wp2_with fail
  obtain ⟨vm, hvm⟩ : ∃ vm, vm = Value.slice (some ⟨w.heap.size + 1 + 1, 0, none⟩) 0 0 := ⟨_, rfl⟩
  rw [← hvm] at O0
  generalize ((w.alloc (.cells #[.slice A' n' c'] 26)).alloc (.cells #[.int .i64 st, .int .i64 ld, .slice A n c] 29)).alloc (.cells #[] 2) = W at C0 X1 X2 O0 D0 H0 z0 ⊢
  obtain ⟨L, hL⟩ : ∃ L, L = (zss.getD s []).length := ⟨_, rfl⟩
  rw [← hL] at hr
  have HL := Lib.hid hL
  clear hL
  go_loopw [7, 8] (fun u i wr => ∃ k : Nat, k ≤ L ∧ i = .int .i64 k ∧ Hid (OwnV wr (w.heap.size + 2) u (leftL ((zss.getD s []).take k) cs)) ∧ Hid (SBox wr 26 w.heap.size #[.slice A' n' c']) ∧ Hid (SBox wr 29 (w.heap.size + 1) #[.int .i64 st, .int .i64 ld, .slice A n c]) ∧ Hid (RdR wr 0 w.heap.size A' n' zss) ∧ Hid (Rd wr 0 w.heap.size A n cs) ∧ Hid (Below w.heap.size w wr) ∧ Hid (w.heap.size + 2 < wr.heap.size)) (fun _ i _ => L - (intOf i).toNat)
  case atStart => exact ⟨0, Nat.zero_le _, rfl, by rw [hvm] at O0; exact O0.out, X1.out, X2.out, D0.out, H0.out, C0.out.to_below, z0⟩
  case round =>
    obtain ⟨k, hk, rfl, ho, hX1, hX2, hDD, hR, hK, hsz⟩ := hrel
    obtain ⟨b, off, B, C, rfl, hb0, hb1, hcell, hrow, hCl, hCn⟩ := hDD.out.at_ hs
    rw [← HL.out] at hcell hrow hCl
    have q1 : wr.cell? ⟨w.heap.size, 0, none⟩ = some (.slice (some ⟨b, off, none⟩) n' c') := (hX1.out.cell 0).trans rfl
    have q2 := hX2.out.p2
    have hsl : (s : Int) < (n' : Int) := by omega
    have hs2 : s ≤ 1048576 := by omega
    by_cases hlt : k < L
    · obtain ⟨b2, off2, rfl, _, _, hrc⟩ := hrow.2 (by omega)
      have hkl : (k : Int) < (L : Int) := by omega
      have hcx := hrc k hlt
      have hst := Lib.hid (leftL_step (zss.getD s []) cs (k := k) (by rw [← HL.out]; exact hlt))
      generalize (zss.getD s []).getD k 0 = x at hcx hst
      have hlen : (leftL ((zss.getD s []).take k) cs).length ≤ 1048576 := by
        have h1 := leftL_le ((zss.getD s []).take k) cs
        rw [List.length_take, ← HL.out] at h1
        omega
      have hHas := Lib.hid (fun (V : World) (cv : Chg wr V 0 0) => l01Has A n c x cs 0 w.heap.size V (hR.out.still cv) hn)
      have cd : Chg wr wr.drew 0 0 := Chg.of_drew ⟨1, rfl⟩ 0 0
      have S0 : (wr.drew.cell? ⟨w.heap.size, 0, none⟩ = some (.slice (some ⟨b, off, none⟩) n' c') ∧ wr.drew.cell? ⟨w.heap.size + 1, 2, none⟩ = some (.slice A n c)) ∧ (wr.drew.cell? ⟨b, off + s, none⟩ = some (.slice (some ⟨b2, off2, none⟩) L C) ∧ wr.drew.cell? ⟨b2, off2 + k, none⟩ = some (.int .i64 x)) := ⟨⟨q1, q2⟩, hcell, hcx⟩
      have T0 := S0
      have O1 := ho.out.chg cd (Nat.zero_le _)
      have E1 := Lib.hid (hX1.out.still cd)
      have E2 := Lib.hid (hX2.out.still cd)
      have E3 := Lib.hid (hDD.out.still cd)
      have E4 := Lib.hid (hR.out.still cd)
      have E5 := Lib.hid (Chg.above hK.out cd (by have := hsz.out; omega) (.inr rfl))
      have E6 : w.heap.size + 2 < wr.drew.heap.size := by have := cd.size; have := hsz.out; omega
      have hbase : w.heap.size + 2 ≤ wr.drew.heap.size := by omega
      generalize hhb : hasB cs x = hb at hst hHas
      clear hhb hrc
      cases hb
      · have hn2 := Lib.hid (show leftL ((zss.getD s []).take (k + 1)) cs = leftL ((zss.getD s []).take k) cs ++ [x] from hst.out)
        go_wp2_with fail
        refine wp_region_held_drew (S := fun V => (V.cell? ⟨w.heap.size, 0, none⟩ = some (.slice (some ⟨b, off, none⟩) n' c') ∧ V.cell? ⟨w.heap.size + 1, 2, none⟩ = some (.slice A n c)) ∧ (V.cell? ⟨b, off + s, none⟩ = some (.slice (some ⟨b2, off2, none⟩) L C) ∧ V.cell? ⟨b2, off2 + k, none⟩ = some (.int .i64 x))) (by kernel_rfl) S0 (fun hHeld => ?_)
        refine take_slotC (i := 0) (d := some 20) (v := .pointer (some ⟨w.heap.size + 1, 2, none⟩)) rfl (by kernel_rfl) (by kernel_rfl) (by kernel_rfl) (by kernel_rfl) (fun _ _ _ h => h) (.inl ⟨by kernel_rfl, fun V hV => by obtain ⟨⟨hV1, hV2⟩, hV3, hV4⟩ := hV; go_simp⟩) hHeld ?_
        try simp only [Act.put, List.setIfInBounds_toArray, List.set_cons_zero, List.set_cons_succ]
        refine take_slotC (i := 1) (d := some 21) (v := .slice A n c) rfl (by kernel_rfl) (by kernel_rfl) (by kernel_rfl) (by kernel_rfl) (fun _ _ _ h => h) (.inl ⟨by kernel_rfl, fun V hV => by obtain ⟨⟨hV1, hV2⟩, hV3, hV4⟩ := hV; go_simp⟩) hHeld ?_
        try simp only [Act.put, List.setIfInBounds_toArray, List.set_cons_zero, List.set_cons_succ]
        refine take_slotC (i := 2) (d := some 22) (v := .pointer (some ⟨w.heap.size, 0, none⟩)) rfl (by kernel_rfl) (by kernel_rfl) (by kernel_rfl) (by kernel_rfl) (fun _ _ _ h => h) (.inl ⟨by kernel_rfl, fun V hV => by obtain ⟨⟨hV1, hV2⟩, hV3, hV4⟩ := hV; go_simp⟩) hHeld ?_
        try simp only [Act.put, List.setIfInBounds_toArray, List.set_cons_zero, List.set_cons_succ]
        refine take_slotC (i := 3) (d := some 23) (v := .slice (some ⟨b, off, none⟩) n' c') rfl (by kernel_rfl) (by kernel_rfl) (by kernel_rfl) (by kernel_rfl) (fun _ _ _ h => h) (.inl ⟨by kernel_rfl, fun V hV => by obtain ⟨⟨hV1, hV2⟩, hV3, hV4⟩ := hV; go_simp⟩) hHeld ?_
        try simp only [Act.put, List.setIfInBounds_toArray, List.set_cons_zero, List.set_cons_succ]
        refine take_slotC (i := 4) (d := some 24) (v := .int .i64 (s : Int)) rfl (by kernel_rfl) (by kernel_rfl) (by kernel_rfl) (by kernel_rfl) (fun _ _ _ h => h) (.inl ⟨by kernel_rfl, fun V hV => by obtain ⟨⟨hV1, hV2⟩, hV3, hV4⟩ := hV; go_simp⟩) hHeld ?_
        try simp only [Act.put, List.setIfInBounds_toArray, List.set_cons_zero, List.set_cons_succ]
        refine take_slotC (i := 5) (d := some 25) (v := .pointer (some ⟨b, off + s, none⟩)) rfl (by kernel_rfl) (by kernel_rfl) (by kernel_rfl) (by kernel_rfl) (fun _ _ _ h => h) (.inl ⟨by kernel_rfl, fun V hV => by obtain ⟨⟨hV1, hV2⟩, hV3, hV4⟩ := hV; go_simp⟩) hHeld ?_
        try simp only [Act.put, List.setIfInBounds_toArray, List.set_cons_zero, List.set_cons_succ]
        refine take_slotC (i := 6) (d := some 26) (v := .slice (some ⟨b2, off2, none⟩) L C) rfl (by kernel_rfl) (by kernel_rfl) (by kernel_rfl) (by kernel_rfl) (fun _ _ _ h => h) (.inl ⟨by kernel_rfl, fun V hV => by obtain ⟨⟨hV1, hV2⟩, hV3, hV4⟩ := hV; go_simp⟩) hHeld ?_
        try simp only [Act.put, List.setIfInBounds_toArray, List.set_cons_zero, List.set_cons_succ]
        refine take_slotC (i := 7) (d := some 27) (v := .int .i64 (k : Int)) rfl (by kernel_rfl) (by kernel_rfl) (by kernel_rfl) (by kernel_rfl) (fun _ _ _ h => h) (.inl ⟨by kernel_rfl, fun V hV => by obtain ⟨⟨hV1, hV2⟩, hV3, hV4⟩ := hV; go_simp⟩) hHeld ?_
        try simp only [Act.put, List.setIfInBounds_toArray, List.set_cons_zero, List.set_cons_succ]
        refine take_slotC (i := 8) (d := some 28) (v := .pointer (some ⟨b2, off2 + k, none⟩)) rfl (by kernel_rfl) (by kernel_rfl) (by kernel_rfl) (by kernel_rfl) (fun _ _ _ h => h) (.inl ⟨by kernel_rfl, fun V hV => by obtain ⟨⟨hV1, hV2⟩, hV3, hV4⟩ := hV; go_simp⟩) hHeld ?_
        try simp only [Act.put, List.setIfInBounds_toArray, List.set_cons_zero, List.set_cons_succ]
        refine take_slotC (i := 9) (d := some 29) (v := .int .i64 x) rfl (by kernel_rfl) (by kernel_rfl) (by kernel_rfl) (by kernel_rfl) (fun _ _ _ h => h) (.inl ⟨by kernel_rfl, fun V hV => by obtain ⟨⟨hV1, hV2⟩, hV3, hV4⟩ := hV; go_simp⟩) hHeld ?_
        try simp only [Act.put, List.setIfInBounds_toArray, List.set_cons_zero, List.set_cons_succ]
        refine wpAnyH_ready (rs := [10]) (by kernel_rfl) (by simp) (AllReadyH.cons (i := 10) rfl (fun K' hK' => ?_) AllReadyH.nil)
        go_simp
        refine (hHas.out _ cd).mono ?_
        rintro e w' ⟨rfl, rfl⟩
        refine hK'.out _ _ hHeld (fun hHeld => ?_)
        clear hK'
        try simp only [Act.put, List.setIfInBounds_toArray, List.set_cons_zero, List.set_cons_succ]
        refine take_slotC (i := 11) (d := some 31) (v := .bool true) rfl (by kernel_rfl) (by kernel_rfl) (by kernel_rfl) (by kernel_rfl) (fun _ _ _ h => h) (.inl ⟨by kernel_rfl, fun V hV => by obtain ⟨⟨hV1, hV2⟩, hV3, hV4⟩ := hV; go_simp⟩) hHeld ?_
        try simp only [Act.put, List.setIfInBounds_toArray, List.set_cons_zero, List.set_cons_succ]
        refine wpAnyH_done (by kernel_rfl) ?_ _
        obtain ⟨⟨T1, T2⟩, T3, T4⟩ := T0
        generalize wr.drew = wd at O1 E1 E2 E3 E4 E5 E6 hbase T1 T2 T3 T4 ⊢
        go_wp2_with (at_builtin; refine wpList_push rfl (.tmp 32) (.tmp 41) rfl (w.heap.size + 2) _ _ rfl O1 _ rfl hlen hbase ?_; intro v2 w3 o2 b2')
        have F1 := Lib.hid (show SBox w3 26 w.heap.size #[.slice (some ⟨b, off, none⟩) n' c'] from (b2'.block _ (by omega)).trans E1.out)
        have F2 := Lib.hid (show SBox w3 29 (w.heap.size + 1) #[.int .i64 st, .int .i64 ld, .slice A n c] from (b2'.block _ (by omega)).trans E2.out)
        have F3 := Lib.hid (E3.out.below b2' (by omega))
        have F4 := Lib.hid (E4.out.below b2' (by omega))
        have F5 := Lib.hid (E5.out.trans (b2'.mono (by omega)))
        have F6 := Lib.hid (show w.heap.size + 2 < w3.heap.size by have := b2'.size; omega)
        have F0 := Lib.hid (show OwnV w3 (w.heap.size + 2) v2 (leftL ((zss.getD s []).take (k + 1)) cs) by rw [hn2.out]; exact o2)
        go_roundw
        case rel => exact ⟨k + 1, by omega, by go_num, F0.out, F1.out, F2.out, F3.out, F4.out, F5.out, F6.out⟩
        case measure => simp [intOf]; omega
      · have hn2 := Lib.hid (show leftL ((zss.getD s []).take (k + 1)) cs = leftL ((zss.getD s []).take k) cs by rw [hst.out]; simp)
        have F0 := Lib.hid (show OwnV wr.drew (w.heap.size + 2) _ (leftL ((zss.getD s []).take (k + 1)) cs) by rw [hn2.out]; exact O1)
        go_wp2_with fail
        refine wp_region_held_drew (S := fun V => (V.cell? ⟨w.heap.size, 0, none⟩ = some (.slice (some ⟨b, off, none⟩) n' c') ∧ V.cell? ⟨w.heap.size + 1, 2, none⟩ = some (.slice A n c)) ∧ (V.cell? ⟨b, off + s, none⟩ = some (.slice (some ⟨b2, off2, none⟩) L C) ∧ V.cell? ⟨b2, off2 + k, none⟩ = some (.int .i64 x))) (by kernel_rfl) S0 (fun hHeld => ?_)
        refine take_slotC (i := 0) (d := some 20) (v := .pointer (some ⟨w.heap.size + 1, 2, none⟩)) rfl (by kernel_rfl) (by kernel_rfl) (by kernel_rfl) (by kernel_rfl) (fun _ _ _ h => h) (.inl ⟨by kernel_rfl, fun V hV => by obtain ⟨⟨hV1, hV2⟩, hV3, hV4⟩ := hV; go_simp⟩) hHeld ?_
        try simp only [Act.put, List.setIfInBounds_toArray, List.set_cons_zero, List.set_cons_succ]
        refine take_slotC (i := 1) (d := some 21) (v := .slice A n c) rfl (by kernel_rfl) (by kernel_rfl) (by kernel_rfl) (by kernel_rfl) (fun _ _ _ h => h) (.inl ⟨by kernel_rfl, fun V hV => by obtain ⟨⟨hV1, hV2⟩, hV3, hV4⟩ := hV; go_simp⟩) hHeld ?_
        try simp only [Act.put, List.setIfInBounds_toArray, List.set_cons_zero, List.set_cons_succ]
        refine take_slotC (i := 2) (d := some 22) (v := .pointer (some ⟨w.heap.size, 0, none⟩)) rfl (by kernel_rfl) (by kernel_rfl) (by kernel_rfl) (by kernel_rfl) (fun _ _ _ h => h) (.inl ⟨by kernel_rfl, fun V hV => by obtain ⟨⟨hV1, hV2⟩, hV3, hV4⟩ := hV; go_simp⟩) hHeld ?_
        try simp only [Act.put, List.setIfInBounds_toArray, List.set_cons_zero, List.set_cons_succ]
        refine take_slotC (i := 3) (d := some 23) (v := .slice (some ⟨b, off, none⟩) n' c') rfl (by kernel_rfl) (by kernel_rfl) (by kernel_rfl) (by kernel_rfl) (fun _ _ _ h => h) (.inl ⟨by kernel_rfl, fun V hV => by obtain ⟨⟨hV1, hV2⟩, hV3, hV4⟩ := hV; go_simp⟩) hHeld ?_
        try simp only [Act.put, List.setIfInBounds_toArray, List.set_cons_zero, List.set_cons_succ]
        refine take_slotC (i := 4) (d := some 24) (v := .int .i64 (s : Int)) rfl (by kernel_rfl) (by kernel_rfl) (by kernel_rfl) (by kernel_rfl) (fun _ _ _ h => h) (.inl ⟨by kernel_rfl, fun V hV => by obtain ⟨⟨hV1, hV2⟩, hV3, hV4⟩ := hV; go_simp⟩) hHeld ?_
        try simp only [Act.put, List.setIfInBounds_toArray, List.set_cons_zero, List.set_cons_succ]
        refine take_slotC (i := 5) (d := some 25) (v := .pointer (some ⟨b, off + s, none⟩)) rfl (by kernel_rfl) (by kernel_rfl) (by kernel_rfl) (by kernel_rfl) (fun _ _ _ h => h) (.inl ⟨by kernel_rfl, fun V hV => by obtain ⟨⟨hV1, hV2⟩, hV3, hV4⟩ := hV; go_simp⟩) hHeld ?_
        try simp only [Act.put, List.setIfInBounds_toArray, List.set_cons_zero, List.set_cons_succ]
        refine take_slotC (i := 6) (d := some 26) (v := .slice (some ⟨b2, off2, none⟩) L C) rfl (by kernel_rfl) (by kernel_rfl) (by kernel_rfl) (by kernel_rfl) (fun _ _ _ h => h) (.inl ⟨by kernel_rfl, fun V hV => by obtain ⟨⟨hV1, hV2⟩, hV3, hV4⟩ := hV; go_simp⟩) hHeld ?_
        try simp only [Act.put, List.setIfInBounds_toArray, List.set_cons_zero, List.set_cons_succ]
        refine take_slotC (i := 7) (d := some 27) (v := .int .i64 (k : Int)) rfl (by kernel_rfl) (by kernel_rfl) (by kernel_rfl) (by kernel_rfl) (fun _ _ _ h => h) (.inl ⟨by kernel_rfl, fun V hV => by obtain ⟨⟨hV1, hV2⟩, hV3, hV4⟩ := hV; go_simp⟩) hHeld ?_
        try simp only [Act.put, List.setIfInBounds_toArray, List.set_cons_zero, List.set_cons_succ]
        refine take_slotC (i := 8) (d := some 28) (v := .pointer (some ⟨b2, off2 + k, none⟩)) rfl (by kernel_rfl) (by kernel_rfl) (by kernel_rfl) (by kernel_rfl) (fun _ _ _ h => h) (.inl ⟨by kernel_rfl, fun V hV => by obtain ⟨⟨hV1, hV2⟩, hV3, hV4⟩ := hV; go_simp⟩) hHeld ?_
        try simp only [Act.put, List.setIfInBounds_toArray, List.set_cons_zero, List.set_cons_succ]
        refine take_slotC (i := 9) (d := some 29) (v := .int .i64 x) rfl (by kernel_rfl) (by kernel_rfl) (by kernel_rfl) (by kernel_rfl) (fun _ _ _ h => h) (.inl ⟨by kernel_rfl, fun V hV => by obtain ⟨⟨hV1, hV2⟩, hV3, hV4⟩ := hV; go_simp⟩) hHeld ?_
        try simp only [Act.put, List.setIfInBounds_toArray, List.set_cons_zero, List.set_cons_succ]
        refine wpAnyH_ready (rs := [10]) (by kernel_rfl) (by simp) (AllReadyH.cons (i := 10) rfl (fun K' hK' => ?_) AllReadyH.nil)
        go_simp
        refine (hHas.out _ cd).mono ?_
        rintro e w' ⟨rfl, rfl⟩
        refine hK'.out _ _ hHeld (fun hHeld => ?_)
        clear hK'
        try simp only [Act.put, List.setIfInBounds_toArray, List.set_cons_zero, List.set_cons_succ]
        refine take_slotC (i := 11) (d := some 31) (v := .bool false) rfl (by kernel_rfl) (by kernel_rfl) (by kernel_rfl) (by kernel_rfl) (fun _ _ _ h => h) (.inl ⟨by kernel_rfl, fun V hV => by obtain ⟨⟨hV1, hV2⟩, hV3, hV4⟩ := hV; go_simp⟩) hHeld ?_
        try simp only [Act.put, List.setIfInBounds_toArray, List.set_cons_zero, List.set_cons_succ]
        refine wpAnyH_done (by kernel_rfl) ?_ _
        go_wp2_with fail
        go_roundw
        case rel => exact ⟨k + 1, by omega, by go_num, F0.out, E1.out, E2.out, E3.out, E4.out, E5.out, E6⟩
        case measure => simp [intOf]; omega
    · have hke : k = L := by omega
      have hkl : ¬ (k : Int) < (L : Int) := by omega
      have HK := Lib.hid (show (zss.getD s []).take k = zss.getD s [] by rw [hke, HL.out, List.take_length])
      have hof := ho.out.more (show w.heap.size ≤ w.heap.size + 2 by omega)
      rw [HK.out] at hof
      have HF := Lib.hid hof
      clear hke hrow hof
      go_wp2_with fail
      go_ret
      exact ⟨_, rfl, HF.out, hK.out⟩
end Go.Proofs.Yteglffbeldlibaa.Lib1
