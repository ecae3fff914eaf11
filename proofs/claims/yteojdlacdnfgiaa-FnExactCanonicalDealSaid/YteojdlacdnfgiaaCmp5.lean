/- Chapter 5: the library's Compare at cards; the program's compareDeals. -/
import Derived.Test.YteojdlacdnfgiaaLists5
import Derived.Test.YteojdlacdnfgiaaCardsI
import Derived.Test.YteojdlacdnfgiaaSetR5
import Derived.Deep.RegionHeld3
import Derived.Lib.Hide
namespace Go.Proofs.Yteojdlacdnfgiaa.Lib1
open Go.RowKit
set_option maxRecDepth 100000

def cmpI : List Int → List Int → Int
  | [], [] => 0
  | [], _ :: _ => -1
  | _ :: _, [] => 1
  | x :: a, y :: b => if x < y then -1 else if y < x then 1 else cmpI a b
theorem cmpI_less : ∀ a b : List Int, decide (cmpI a b < 0) = lexB a b
  | [], [] => rfl
  | [], _ :: _ => rfl
  | _ :: _, [] => rfl
  | x :: a, y :: b => by
    rw [cmpI, lexB]
    by_cases h : x < y
    · rw [if_pos h, if_neg (by omega)]; simp [h]
    · rw [if_neg h]
      by_cases k : y < x
      · rw [if_pos k, if_neg (by omega)]; simp; omega
      · rw [if_neg k, if_pos (by omega)]; exact cmpI_less a b
theorem cmpI_same : ∀ a b : List Int, cmpI a b = 0 ↔ a = b
  | [], [] => by simp [cmpI]
  | [], _ :: _ => by simp [cmpI]
  | _ :: _, [] => by simp [cmpI]
  | x :: a, y :: b => by
    rw [cmpI]
    by_cases h : x < y
    · rw [if_pos h]; simp; omega
    · rw [if_neg h]
      by_cases k : y < x
      · rw [if_pos k]; simp; omega
      · rw [if_neg k, cmpI_same a b]
        obtain rfl : x = y := by omega
        simp
theorem cmpI_drop (zs ys : List Int) {k : Nat} (h : k < zs.length) (h' : k < ys.length) : cmpI (zs.drop k) (ys.drop k) = if zs.getD k 0 < ys.getD k 0 then -1 else if ys.getD k 0 < zs.getD k 0 then 1 else cmpI (zs.drop (k + 1)) (ys.drop (k + 1)) := by
  rw [List.drop_eq_getElem_cons h, List.drop_eq_getElem_cons h', cmpI, getD_at _ _ h, getD_at _ _ h']
theorem cmp64 (a b : Int) (w : World) : Calls Try.prog 137 #[.int .i64 a, .int .i64 b] w fun e w' => e = .returned (.int .i64 (if a < b then -1 else if b < a then 1 else 0)) ∧ w = w' := by
  by_cases h : a < b
  · have e : Hid ((if a < b then (-1 : Int) else if b < a then 1 else 0) = -1) := by show _ = _; rw [if_pos h]
    rw [e.out]
    go_enter Try.func137, Try.ntmps137
    go_wp2
    go_ret
    exact ⟨rfl, rfl⟩
  · by_cases k : b < a
    · have e : Hid ((if a < b then (-1 : Int) else if b < a then 1 else 0) = 1) := by show _ = _; rw [if_neg h, if_pos k]
      rw [e.out]
      go_enter Try.func137, Try.ntmps137
      go_wp2
      go_ret
      exact ⟨rfl, rfl⟩
    · have e : Hid ((if a < b then (-1 : Int) else if b < a then 1 else 0) = 0) := by show _ = _; rw [if_neg h, if_neg k]
      rw [e.out]
      go_enter Try.func137, Try.ntmps137
      go_wp2
      go_ret
      exact ⟨rfl, rfl⟩

set_option maxHeartbeats 1600000 in
theorem Compare64 (A : Option Addr) (n c : Nat) (zs : List Int) (lo hi : Nat) (A' : Option Addr) (n' c' : Nat) (ys : List Int) (lo' hi' : Nat) (w : World) (h : Rd w lo hi A n zs) (h' : Rd w lo' hi' A' n' ys) (hn : n ≤ 1048576) (hn' : n' ≤ 1048576) :
    Calls Try.prog 109 #[.slice A n c, .slice A' n' c'] w fun e w' => e = .returned (.int .i64 (cmpI zs ys)) ∧ w = w' := by
  have hz := Lib.hid h.1
  have hy := Lib.hid h'.1
  have HZ := Lib.hid h.2
  have HY := Lib.hid h'.2
  clear h h'
  go_enter Try.func109, Try.ntmps109
  go_wp2_with fail
  go_loop [11] (fun i => ∃ k : Nat, k ≤ n ∧ i = .int .i64 k ∧ Hid (k ≤ n') ∧ Hid (cmpI zs ys = cmpI (zs.drop k) (ys.drop k))) (fun i => n - (intOf i).toNat)
  case atStart => exact ⟨0, Nat.zero_le _, rfl, Nat.zero_le _, rfl⟩
  case round =>
    obtain ⟨k, hk, rfl, hk', hc⟩ := hrel
    by_cases hlt : k < n
    · have hkI : (k : Int) < (n : Int) := by omega
      obtain ⟨rb, ro, rfl, _, _, hrc⟩ := HZ.out (by omega)
      have q1 := hrc k hlt
      by_cases hlt' : k < n'
      · have hkJ : ¬ (n' : Int) ≤ (k : Int) := by omega
        have hkL : (k : Int) < (n' : Int) := by omega
        obtain ⟨sb, so, rfl, _, _, hsc⟩ := HY.out (by omega)
        have q2 := hsc k hlt'
        have hd := Lib.hid (cmpI_drop zs ys (k := k) (by rw [hz.out]; exact hlt) (by rw [hy.out]; exact hlt'))
        generalize zs.getD k 0 = x at q1 hd
        generalize ys.getD k 0 = y at q2 hd
        have hcm := Lib.hid (cmp64 x y w)
        clear hrc hsc
        by_cases hxy : x < y
        · have he : Hid (cmpI zs ys = -1) := by show _ = _; rw [hc.out, hd.out, if_pos hxy]
          rw [if_pos hxy] at hcm
          clear hd hxy hc
          go_wp2_with fail
          refine hcm.out.mono ?_
          rintro e w' ⟨rfl, rfl⟩
          go_wp2_with fail
          go_ret
          exact ⟨by rw [he.out]; rfl, rfl⟩
        · by_cases hyx : y < x
          · have he : Hid (cmpI zs ys = 1) := by show _ = _; rw [hc.out, hd.out, if_neg hxy, if_pos hyx]
            rw [if_neg hxy, if_pos hyx] at hcm
            clear hd hxy hyx hc
            go_wp2_with fail
            refine hcm.out.mono ?_
            rintro e w' ⟨rfl, rfl⟩
            go_wp2_with fail
            go_ret
            exact ⟨by rw [he.out]; rfl, rfl⟩
          · have he : Hid (cmpI zs ys = cmpI (zs.drop (k + 1)) (ys.drop (k + 1))) := by show _ = _; rw [hc.out, hd.out, if_neg hxy, if_neg hyx]
            rw [if_neg hxy, if_neg hyx] at hcm
            clear hd hxy hyx hc
            go_wp2_with fail
            refine hcm.out.mono ?_
            rintro e' w' ⟨rfl, rfl⟩
            go_wp2_with fail
            go_round
            case rel => exact ⟨k + 1, by omega, by go_num, hlt', he⟩
            case measure => simp [intOf]; omega
      · have hkJ : (n' : Int) ≤ (k : Int) := by omega
        have he : Hid (cmpI zs ys = 1) := by
          show _ = _
          rw [hc.out, List.drop_eq_nil_of_le (show ys.length ≤ k by have := hy.out; omega), List.drop_eq_getElem_cons (show k < zs.length by have := hz.out; omega)]; rfl
        clear hc hrc
        generalize zs.getD k 0 = x at q1
        go_wp2_with fail
        go_ret
        exact ⟨by rw [he.out]; rfl, rfl⟩
    · obtain rfl : k = n := by omega
      by_cases hlt' : k < n'
      · have he : Hid (cmpI zs ys = -1) := by
          show _ = _
          rw [hc.out, List.drop_eq_nil_of_le (show zs.length ≤ k by have := hz.out; omega), List.drop_eq_getElem_cons (show k < ys.length by have := hy.out; omega)]; rfl
        have hI : (k : Int) < (n' : Int) := by omega
        clear hc
        go_wp2_with fail
        go_ret
        exact ⟨by rw [he.out]; rfl, rfl⟩
      · have he : Hid (cmpI zs ys = 0) := by
          show _ = _
          rw [hc.out, List.drop_eq_nil_of_le (show zs.length ≤ k by have := hz.out; omega), List.drop_eq_nil_of_le (show ys.length ≤ k by have := hy.out; omega)]; rfl
        have hI : ¬ (k : Int) < (n' : Int) := by omega
        clear hc
        go_wp2_with fail
        go_ret
        exact ⟨by rw [he.out]; rfl, rfl⟩

set_option maxHeartbeats 1600000 in
/-- The program's compareDeals, at two deals. -/
theorem compareDeals (A : Option Addr) (c : Nat) (zss : List (List Int)) (lo hi : Nat) (A' : Option Addr) (c' : Nat) (yss : List (List Int)) (lo' hi' : Nat) (w : World) (h : RdR w lo hi A 4 zss) (h' : RdR w lo' hi' A' 4 yss) (hd : dealB zss = true) (hd' : dealB yss = true) :
    Calls Try.prog 64 #[.agg #[.slice A 4 c], .agg #[.slice A' 4 c']] w fun e w' => e = .returned (.int .i64 (cmpI zss.flatten yss.flatten)) ∧ Chg w w' 0 0 := by
  have cat : ∀ {A : Option Addr} {c : Nat} {zss : List (List Int)} {lo hi : Nat} {w W : World}, RdR w lo hi A 4 zss → dealB zss = true → Chg w W 0 0 → Calls Try.prog 110 #[.slice A 4 c] W (RetV W zss.flatten) := by
    intro A c zss lo hi w W h hd k
    have hcat : catTo (fun j => zss.getD j []) 4 = zss.flatten := by rw [← h.1]; exact catTo_rows zss
    have hfl := flat_len hd
    obtain ⟨_, B, C, hc, hr⟩ := h.still k
    obtain ⟨b, off, rfl, _, _, hcell⟩ := hc (by omega)
    have := ConcatO b off 4 c B (fun j => (zss.getD j []).length) C (fun j => zss.getD j []) W hcell (fun j hj => (hr j hj).1.all) (fun j hj => (hr j hj).2.2) (by omega) (by rw [hcat]; omega)
    rw [hcat] at this
    exact this
  have c2 := Lib.hid ((Chg.of_alloc w (.cells #[.slice A 4 c] 36) 0 0).trans (Chg.of_alloc _ (.cells #[.slice A' 4 c'] 36) 0 0))
  have B0 := Lib.hid ((BoxAt.new w (.slice A 4 c) 36 rfl).alloc (.cells #[.slice A' 4 c'] 36))
  have B1 := Lib.hid (BoxAt.new (w.alloc (.cells #[.slice A 4 c] 36)) (.slice A' 4 c') 36 (g := w.heap.size + 1) (by simp))
  have F1 := Lib.hid (flat_len hd)
  have F2 := Lib.hid (flat_len hd')
  have H1 := Lib.hid (fun W k => cat (c := c) (W := W) h hd k)
  have H2 := Lib.hid (fun W k => cat (c := c') (W := W) h' hd' k)
  clear cat h h' hd hd'
  generalize zss.flatten = xs at F1 H1 ⊢
  generalize yss.flatten = ys at F2 H2 ⊢
  go_enter Try.func64, Try.ntmps64
  go_wp2_with fail
  generalize (w.alloc (.cells #[.slice A 4 c] 36)).alloc (.cells #[.slice A' 4 c'] 36) = W at c2 B0 B1 ⊢
  have p0 := (show BoxAt W.drew _ _ _ from B0.out).c
  have p1 := (show BoxAt W.drew _ _ _ from B1.out).c
  have dr := Lib.hid (c2.out.trans (Chg.drewN W 1 0 0))
  have cm := Lib.hid (fun (V : World) (u v : Value) (hu : OwnV V 0 u xs) (hv : OwnV V 0 v ys) => (show Calls Try.prog 109 #[u, v] V fun e w' => e = .returned (.int .i64 (cmpI xs ys)) ∧ V = w' by
    obtain ⟨A1, c1, rfl, _, _, o1⟩ := hu.form
    obtain ⟨A2, c2, rfl, _, _, o2⟩ := hv.form
    exact Compare64 A1 xs.length c1 xs _ _ A2 ys.length c2 ys _ _ V o1.rd o2.rd (by have := F1.out; omega) (by have := F2.out; omega)))
  refine wp_region_held_drew (S := fun V => V.cell? ⟨w.heap.size, 0, none⟩ = some (.slice A 4 c) ∧ V.cell? ⟨w.heap.size + 1, 0, none⟩ = some (.slice A' 4 c')) (by kernel_rfl) ⟨p0, p1⟩ (fun hHeld => ?_)
  refine wpAnyH_take (i := 0) (v := .pointer (some ⟨w.heap.size, 0, none⟩)) rfl (by kernel_rfl) (by kernel_rfl) (by kernel_rfl) (fun _ _ _ h => h) (.inl ⟨by rfl, fun V hV => by go_simp⟩) hHeld ?_
  refine wpAnyH_take (i := 1) (v := .slice A 4 c) rfl (by kernel_rfl) (by kernel_rfl) (by kernel_rfl) (fun _ _ _ h => h) (.inl ⟨by rfl, fun V hV => by have hV1 := hV.1; go_simp⟩) hHeld ?_
  refine wpAnyH_take (i := 3) (v := .pointer (some ⟨w.heap.size + 1, 0, none⟩)) rfl (by kernel_rfl) (by kernel_rfl) (by kernel_rfl) (fun _ _ _ h => h) (.inl ⟨by rfl, fun V hV => by go_simp⟩) hHeld ?_
  refine wpAnyH_take (i := 4) (v := .slice A' 4 c') rfl (by kernel_rfl) (by kernel_rfl) (by kernel_rfl) (fun _ _ _ h => h) (.inl ⟨by rfl, fun V hV => by have hV2 := hV.2; go_simp⟩) hHeld ?_
  refine wpAnyH_ready (rs := [2]) (by kernel_rfl) (by simp) (AllReadyH.cons (i := 2) rfl (fun K' hK' => ?_) AllReadyH.nil)
  go_simp
  refine (H1.out _ dr.out).mono ?_
  rintro e w2 ⟨u, rfl, ou, b2⟩
  have k2 := Lib.hid (dr.out.trans (Chg.of_below b2 0 0))
  have q2 := And.intro (box_still p0 (Chg.of_below b2 0 0)) (box_still p1 (Chg.of_below b2 0 0))
  refine hK'.out _ _ q2 (fun hHeld => ?_)
  clear hK'
  refine wpAnyH_ready (rs := [5]) (by kernel_rfl) (by simp) (AllReadyH.cons (i := 5) rfl (fun K' hK' => ?_) AllReadyH.nil)
  go_simp
  refine (H2.out _ k2.out).mono ?_
  rintro e w3 ⟨v, rfl, ov, b3⟩
  have k3 := Lib.hid (k2.out.trans (Chg.of_below b3 0 0))
  have q3 := And.intro (box_still q2.1 (Chg.of_below b3 0 0)) (box_still q2.2 (Chg.of_below b3 0 0))
  have hcm := Lib.hid (cm.out w3 u v ((ou.kept b3).more (Nat.zero_le _)) (ov.more (Nat.zero_le _)))
  refine hK'.out _ _ q3 (fun hHeld => ?_)
  clear hK'
  refine wpAnyH_ready (rs := [6]) (by kernel_rfl) (by simp) (AllReadyH.cons (i := 6) rfl (fun K' hK' => ?_) AllReadyH.nil)
  go_simp
  refine hcm.out.mono ?_
  rintro e w' ⟨rfl, rfl⟩
  refine hK'.out _ _ q3 (fun hHeld => ?_)
  clear hK'
  refine wpAnyH_ready (rs := [7]) (by kernel_rfl) (by simp) (AllReadyH.cons (i := 7) rfl (fun K' hK' => ?_) AllReadyH.nil)
  go_simp
  refine hK'.out _ _ q3 (fun hHeld => ?_)
  clear hK'
  refine wpAnyH_done (by kernel_rfl) ?_ _
  go_wp2_with fail
  go_ret
  exact ⟨rfl, k3.out⟩

end Go.Proofs.Yteojdlacdnfgiaa.Lib1
