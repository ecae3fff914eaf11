/- Chapter 8: the library's slices.Chunk over numbers: what a range over it sees. -/
import Derived.Test.YteglffbeldlibaaRange8
import Derived.Test.YteglffbeldlibaaSBox
import Derived.Deep.CutRange
namespace Go.Proofs.Yteglffbeldlibaa.Lib1
open Go.RowKit Go.Shelf
set_option maxRecDepth 100000
attribute [local go_sem] Oper.semAt_some

/-- The chunk that begins at card j. -/
def chV (b off n j : Nat) : Value := .slice (some ⟨b, off + j, none⟩) (min 4 (n - j)) (min 4 (n - j))
def chE (b off n : Nat) (k : Nat) : Array Value := #[chV b off n (4 * k)]
def chT : TypeId → Prop := fun t => t = 27 ∨ t = 3
theorem range_split8 {k m : Nat} (h : k < m) : List.range m = List.range k ++ k :: (List.range (m - k - 1)).map (· + (k + 1)) := by
  apply List.ext_getElem (by simp; omega)
  intro i h1 h2
  rw [List.getElem_range]
  by_cases e : i < k
  · rw [List.getElem_append_left (by simpa using e), List.getElem_range]
  · rw [List.getElem_append_right (by simp; omega)]
    simp only [List.length_range]
    by_cases e2 : i = k
    · subst e2; simp
    · obtain ⟨q, hq⟩ : ∃ q, i - k = q + 1 := ⟨i - k - 1, by omega⟩
      simp only [hq, List.getElem_cons_succ, List.getElem_map, List.getElem_range]
      omega
theorem chunk8 (A : Option Addr) (n c : Nat) (w : World) : Calls Try.prog 83 #[.slice A n c, .int .i64 4] w fun e w' => e = .returned (.func (.func 129) #[] #[.pointer (some ⟨w.heap.size, 0, none⟩), .pointer (some ⟨w.heap.size + 1, 0, none⟩)]) ∧ w' = (w.alloc (.cells #[.slice A n c] 27)).alloc (.cells #[.int .i64 4] 3) := by
  go_enter Try.func83, Try.ntmps83
  go_wp2
  go_ret
  exact ⟨rfl, rfl⟩
set_option maxHeartbeats 3200000 in
theorem chunk_gives8 (A : Option Addr) (n c b off : Nat) (hA : 0 < n → A = some ⟨b, off, none⟩) (hn : n ≤ 1048576) (hcap : n ≤ c) (w : World) (sb nb : Nat) (hS : SBox w 27 sb #[.slice A n c]) (hN : SBox w 3 nb #[.int .i64 4]) :
    GivesP Try.prog 129 #[.pointer (some ⟨sb, 0, none⟩), .pointer (some ⟨nb, 0, none⟩)] (chE b off n) chT (List.range ((n + 3) / 4)) w := fun l J W hW hJ hY h0 => by
  have hS0 := Lib.hid (show SBox W 27 sb #[.slice A n c] from (hW.block sb hS.lt).trans hS)
  have hN0 := Lib.hid (show SBox W 3 nb #[.int .i64 4] from (hW.block nb hN.lt).trans hN)
  have HY := Lib.hid hY
  have HJ := Lib.hid hJ
  have H0 := Lib.hid h0
  clear hS hN hJ hY h0
  go_enter Try.func129, Try.ntmps129
  go_wp2_with fail
  go_loopw [4] (fun i wr => ∃ k : Nat, k ≤ (n + 3) / 4 ∧ i = .int .i64 ((4 * k : Nat) : Int) ∧ Hid (J (List.range k) wr) ∧ Hid (SBox wr 27 sb #[.slice A n c]) ∧ Hid (SBox wr 3 nb #[.int .i64 4])) (fun i _ => n + 4 - (intOf i).toNat)
  case atStart => exact ⟨0, Nat.zero_le _, rfl, H0.out, hS0, hN0⟩
  case round =>
    obtain ⟨k, hk, rfl, hj, hs, hnb⟩ := hrel
    have s0 : wr.cell? ⟨sb, 0, none⟩ = some (.slice A n c) := (hs.out.cell 0).trans rfl
    have n0 : wr.cell? ⟨nb, 0, none⟩ = some (.int .i64 4) := (hnb.out.cell 0).trans rfl
    obtain ⟨j, hjj⟩ : ∃ j, j = 4 * k := ⟨_, rfl⟩
    have hk0 : 4 * k < n ↔ k < (n + 3) / 4 := by omega
    rw [← hjj] at hk0 ⊢
    have HJJ := Lib.hid hjj
    have hkn : j < n ∨ k = (n + 3) / 4 := by omega
    clear hjj
    by_cases hlt : j < n
    · have hkm := hk0.1 hlt
      have hji : (j : Int) < (n : Int) := by omega
      have hjc : (j : Int) ≤ (c : Int) := by omega
      have hjn : j ≤ n := by omega
      have hcj : ¬ c = j := by omega
      obtain ⟨e, he⟩ : ∃ e, e = min 4 (n - j) := ⟨_, rfl⟩
      have hmin : min (4 : Int) ((n - j : Nat) : Int) = (e : Int) := by omega
      have hAe := hA (by omega)
      subst hAe
      clear hA
      go_wp2_with fail
      refine wp_region_held_drew (S := fun V => SBox V 27 sb #[.slice (some ⟨b, off, none⟩) n c] ∧ SBox V 3 nb #[.int .i64 4]) (by kernel_rfl) (And.intro (hs.out.still (Chg.of_drew ⟨1, rfl⟩ 0 0)) (hnb.out.still (Chg.of_drew ⟨1, rfl⟩ 0 0))) (fun hHeld => ?_)
      refine take_slotC (i := 0) (d := some 13) (v := .int .i64 4) rfl (by kernel_rfl) (by kernel_rfl) (by kernel_rfl) (by kernel_rfl) (fun _ _ _ h => h) (.inl ⟨by kernel_rfl, fun V hV => by have q0 := (SBox.cell hV.1 0).trans rfl; have q1 := (SBox.cell hV.2 0).trans rfl; go_simp⟩) hHeld ?_
      try simp only [Act.put, List.setIfInBounds_toArray, List.set_cons_zero, List.set_cons_succ]
      refine take_slotC (i := 1) (d := some 14) (v := .slice (some ⟨b, off, none⟩) n c) rfl (by kernel_rfl) (by kernel_rfl) (by kernel_rfl) (by kernel_rfl) (fun _ _ _ h => h) (.inl ⟨by kernel_rfl, fun V hV => by have q0 := (SBox.cell hV.1 0).trans rfl; have q1 := (SBox.cell hV.2 0).trans rfl; go_simp⟩) hHeld ?_
      try simp only [Act.put, List.setIfInBounds_toArray, List.set_cons_zero, List.set_cons_succ]
      refine take_slotC (i := 2) (d := some 15) (v := .int .i64 (j : Int)) rfl (by kernel_rfl) (by kernel_rfl) (by kernel_rfl) (by kernel_rfl) (fun _ _ _ h => h) (.inl ⟨by kernel_rfl, fun V hV => by have q0 := (SBox.cell hV.1 0).trans rfl; have q1 := (SBox.cell hV.2 0).trans rfl; go_simp⟩) hHeld ?_
      try simp only [Act.put, List.setIfInBounds_toArray, List.set_cons_zero, List.set_cons_succ]
      refine take_slotC (i := 3) (d := some 16) (v := .slice (some ⟨b, off + j, none⟩) (n - j) (c - j)) rfl (by kernel_rfl) (by kernel_rfl) (by kernel_rfl) (by kernel_rfl) (fun _ _ _ h => h) (.inl ⟨by kernel_rfl, fun V hV => by have q0 := (SBox.cell hV.1 0).trans rfl; have q1 := (SBox.cell hV.2 0).trans rfl; go_simp⟩) hHeld ?_
      try simp only [Act.put, List.setIfInBounds_toArray, List.set_cons_zero, List.set_cons_succ]
      refine take_slotC (i := 4) (d := some 17) (v := .int .i64 ((n - j : Nat) : Int)) rfl (by kernel_rfl) (by kernel_rfl) (by kernel_rfl) (by kernel_rfl) (fun _ _ _ h => h) (.inl ⟨by kernel_rfl, fun V hV => by have q0 := (SBox.cell hV.1 0).trans rfl; have q1 := (SBox.cell hV.2 0).trans rfl; go_simp⟩) hHeld ?_
      try simp only [Act.put, List.setIfInBounds_toArray, List.set_cons_zero, List.set_cons_succ]
      refine take_slotC (i := 5) (d := some 18) (v := .int .i64 (e : Int)) rfl (by kernel_rfl) (by kernel_rfl) (by kernel_rfl) (by kernel_rfl) (fun _ _ _ h => h) (.inl ⟨by kernel_rfl, fun V hV => by have q0 := (SBox.cell hV.1 0).trans rfl; have q1 := (SBox.cell hV.2 0).trans rfl; go_simp⟩) hHeld ?_
      try simp only [Act.put, List.setIfInBounds_toArray, List.set_cons_zero, List.set_cons_succ]
      refine take_slotC (i := 6) (d := some 5) (v := .int .i64 (e : Int)) rfl (by kernel_rfl) (by kernel_rfl) (by kernel_rfl) (by kernel_rfl) (fun _ _ _ h => h) (.inl ⟨by kernel_rfl, fun V hV => by have q0 := (SBox.cell hV.1 0).trans rfl; have q1 := (SBox.cell hV.2 0).trans rfl; go_simp⟩) hHeld ?_
      try simp only [Act.put, List.setIfInBounds_toArray, List.set_cons_zero, List.set_cons_succ]
      refine wpAnyH_done (by kernel_rfl) ?_ _
      clear hmin
      have cd : Chg wr wr.drew 0 0 := Chg.of_drew ⟨1, rfl⟩ 0 0
      have hs := Lib.hid (hs.out.still cd)
      have hnb := Lib.hid (hnb.out.still cd)
      have hj := Lib.hid (HJ.out _ _ _ hj.out cd.to_below)
      have s0 : wr.drew.cell? ⟨sb, 0, none⟩ = some (.slice (some ⟨b, off, none⟩) n c) := (hs.out.cell 0).trans rfl
      have n0 : wr.drew.cell? ⟨nb, 0, none⟩ = some (.int .i64 4) := (hnb.out.cell 0).trans rfl
      generalize wr.drew = V at hs hnb hj s0 n0 ⊢
      have hje : j + e ≤ n := by omega
      have he0 : ¬ e = 0 := by omega
      have HCV := Lib.hid (show chE b off n k = #[.slice (some ⟨b, off + j, none⟩) e e] by unfold chE chV; rw [← HJJ.out, ← he])
      have HE := Lib.hid he
      clear he cd hHeld
      obtain ⟨fn, tmps, assign, body, hy', hR⟩ := HY.out 2 (List.range k) k V ⟨(List.range ((n + 3) / 4 - k - 1)).map (· + (k + 1)), by
        rw [← range_split8 hkm]⟩ hj.out
      rw [HCV.out] at hy'
      go_upto_region 4 with (fail)
      refine (wpIn_wide (n := 3)).1 ?_
      gi_wp2
      all_goals try (first | (exfalso; omega) | skip)
      refine hR.mono ?_
      rintro e9 W3 ⟨rfl, hj3, hk3⟩
      have hs3 := Lib.hid (show SBox W3 27 sb #[.slice (some ⟨b, off, none⟩) n c] from hk3.2 _ _ _ _ (.inl rfl) hs.out)
      have hn3 := Lib.hid (show SBox W3 3 nb #[.int .i64 4] from hk3.2 _ _ _ _ (.inr rfl) hnb.out)
      rw [← List.range_succ] at hj3
      have HJ3 := Lib.hid hj3
      have n1 : W3.cell? ⟨nb, 0, none⟩ = some (.int .i64 4) := (hn3.out.cell 0).trans rfl
      have hj4 : Hid (((j : Int) + 4) = ((4 * (k + 1) : Nat) : Int)) := by show _ = _; rw [HJJ.out]; omega
      clear hR hy' hk3 hj3 hs hnb hj s0 n0
      gi_wp2
      go_wp2
      go_roundw
      case rel => exact ⟨k + 1, hkm, by rw [← hj4.out], HJ3.out, hs3.out, hn3.out⟩
      case measure => simp [intOf]; omega
    · have hkE : k = (n + 3) / 4 := hkn.resolve_left hlt
      have HKE := Lib.hid hkE
      clear hkn hkE hk0
      have hji : ¬ (j : Int) < (n : Int) := by omega
      go_wp2
      go_end0
      exact ⟨⟨_, rfl⟩, by rw [← HKE.out]; exact hj.out⟩
end Go.Proofs.Yteglffbeldlibaa.Lib1
