/- Chapter 7: a legal call, drawn. -/
import Derived.Test.YtnkbcmkngghnoaaDoorAucB7
import Derived.Test.YtnkbcmkngghnoaaDoorDraw6
namespace Go.Proofs.YtnkbcmkngghnoaaDoor.Lib1
open Go.RowKit
set_option maxRecDepth 100000

theorem legalTo_pos (zs : List Int) (n : Nat) : ∀ k, 1 ≤ (legalTo zs n (k + 1)).length
  | 0 => by
    have h : legTo zs n ((0 : Nat) : Int) = true := rfl
    rw [legalTo, h]; simp
  | k + 1 => by have := legalTo_pos zs n k; rw [legalTo, List.length_append]; omega
theorem legalTo_range (zs : List Int) (n : Nat) : ∀ k, ∀ x ∈ legalTo zs n k, 0 ≤ x ∧ x < (k : Int)
  | 0, x, h => by simp [legalTo] at h
  | k + 1, x, h => by
    rw [legalTo] at h
    rcases List.mem_append.1 h with q | q
    · have := legalTo_range zs n k x q; omega
    · split at q
      · simp at q; omega
      · cases q
theorem legalTo_at (zs : List Int) (n : Nat) (j : Nat) (h : j < (legalTo zs n 38).length) : 0 ≤ (legalTo zs n 38).getD j 0 ∧ (legalTo zs n 38).getD j 0 ≤ 37 := by
  have hm : (legalTo zs n 38).getD j 0 ∈ legalTo zs n 38 := by rw [List.getD_eq_getElem?_getD, List.getElem?_eq_getElem h]; exact List.getElem_mem _
  have := legalTo_range zs n 38 _ hm
  omega
/-- The cells of a slice of the call's own. -/
theorem OwnV.cells {w : World} {base : Nat} {v : Value} {zs : List Int} (h : OwnV w base v zs) (hn : 0 < zs.length) : ∃ b c, v = .slice (some ⟨b, 0, none⟩) zs.length c ∧ base ≤ b ∧ b < w.heap.size ∧ ∀ j, j < zs.length → w.cell? ⟨b, j, none⟩ = some (.int .i64 (zs.getD j 0)) := by
  obtain ⟨A, c, rfl, _, _, ho⟩ := h.form
  obtain ⟨b, cs, rfl, h1, h2, hb, hc⟩ := ho.2 hn
  exact ⟨b, c, rfl, h1, h2, fun j hj => by rw [cell_of_row w b j _ _ _ hb]; exact hc j hj⟩

set_option maxHeartbeats 4000000 in
theorem l07DrawCall (g : Nat) (A : Option Addr) (n c : Nat) (zs : List Int) (w : World) (hsrc : Src w g) (h : Rp w A n zs) (hn : n ≤ 1048576) :
    Calls Tryd.prog 76 #[.pointer (some ⟨g, 0, none⟩), .slice A n c] w (Drew g w fun r => 0 ≤ r ∧ r ≤ 37) := by
  have hg := hsrc.lt
  have O0 := Lib.hid (OwnV.made w (base := w.heap.size) (Nat.le_refl _))
  have K0 := Lib.hid ((Below.refl w.heap.size w).alloc (Nat.le_refl _) (.cells #[] 2))
  have HP := Lib.hid h
  have HS := Lib.hid hsrc
  clear h hsrc
  go_enter Tryd.func76, Tryd.ntmps76
  go_wp2_with fail
  go_loopw [5, 6] (fun u i wr => ∃ k : Nat, k ≤ 38 ∧ i = .int .i64 k ∧ OwnV wr w.heap.size u (legalTo zs n k) ∧ Hid (Below w.heap.size w wr)) (fun _ i _ => 38 - (intOf i).toNat)
  case atStart => exact ⟨0, by omega, rfl, O0.out, K0.out⟩
  case round =>
    obtain ⟨k, hk, rfl, ho, hb⟩ := hrel
    by_cases hlt : k < 38
    · have hkl : (k : Int) ≤ 37 := by omega
      have hR := Lib.hid (HP.out.below7 hb.out (Nat.le_refl _))
      have hlen : (legalTo zs n k).length ≤ 1048576 := by have := legalTo_len zs n k; omega
      have hsz := hb.out.size
      have hstep : Hid (legalTo zs n (k + 1) = legalTo zs n k ++ if legTo zs n (k : Int) then [(k : Int)] else []) := rfl
      cases hleg : legTo zs n (k : Int)
      · have hs' : Hid (legalTo zs n (k + 1) = legalTo zs n k) := by show _ = _; rw [hstep.out, hleg]; simp
        go_wp2_with (go_at_call 35; refine (l07Legal A n c zs (k : Int) _ hR.out hn).mono ?_; rw [hleg]; rintro e w' ⟨rfl, rfl⟩)
        go_roundw
        case rel => exact ⟨k + 1, by omega, by go_num, by rw [hs'.out]; exact ho, hb⟩
        case measure => simp [intOf]; omega
      · have hs' : Hid (legalTo zs n (k + 1) = legalTo zs n k ++ [(k : Int)]) := by show _ = _; rw [hstep.out, hleg]; simp
        go_wp2_with (first | (go_at_call 35; refine (l07Legal A n c zs (k : Int) _ hR.out hn).mono ?_; rw [hleg]; rintro e w' ⟨rfl, rfl⟩) | (at_builtin; refine wpList_push rfl (.tmp 15) (.tmp 17) rfl w.heap.size _ _ rfl ho _ rfl hlen hsz ?_; intro v2 w3 o2 b2))
        refine ⟨⟨k + 1, by omega, by congr 1, by rw [hs'.out]; exact o2, hb.out.trans b2⟩, ?_⟩
        simp [intOf]; omega
    · obtain rfl : k = 38 := by omega
      have hpos := legalTo_pos zs n 37
      have hlen := legalTo_len zs n 38
      have hat := Lib.hid (legalTo_at zs n)
      obtain ⟨b, cc, rfl, hb0, hb1, hcell⟩ := ho.cells hpos
      generalize legalTo zs n 38 = L at hpos hlen hat hcell
      have HC := Lib.hid hcell
      have S1 := Lib.hid (HS.out.still (Chg.of_below hb.out 0 0))
      have C1 := Lib.hid (Chg.of_below hb.out g (g + 1))
      obtain ⟨N, hN⟩ : ∃ N, N = L.length := ⟨_, rfl⟩
      have HN := Lib.hid hN
      rw [← hN] at hpos hlen ⊢
      clear hN hcell ho hb hlt hk
      go_wp2_with fail
      refine (l01Next g 6 _ S1.out (by omega)).mono ?_
      rintro e w1 ⟨r1, rfl, ⟨r10, r11⟩, s1, c1⟩
      have S2 := Lib.hid s1
      have C2 := Lib.hid (C1.out.trans c1)
      have HC2 := Lib.hid (fun (j : Nat) (hj : j < N) => (show w1.cell? ⟨b, j, none⟩ = some (.int .i64 (L.getD j 0)) by rw [World.cell?_of_block (c1.block b hb1 (by omega))]; exact HC.out j (by rw [← HN.out]; exact hj)))
      have hb2 : b < w1.heap.size := by have := c1.size; omega
      clear s1 c1 C1 S1 HC r11
      by_cases h012 : r1 = 0 ∨ r1 = 1 ∨ r1 = 2
      · rcases h012 with rfl | rfl | rfl
        all_goals
          go_wp2_with fail
          go_ret
          exact ⟨0, rfl, ⟨by omega, by omega⟩, S2.out, C2.out⟩
      have t0 : (r1 == 0) = false := by simp; omega
      have t1 : (r1 == 1) = false := by simp; omega
      have t2 : (r1 == 2) = false := by simp; omega
      by_cases h3 : r1 = 3
      · subst h3
        go_wp2_with fail
        refine (l01Next g (N : Int) _ S2.out (by omega)).mono ?_
        rintro e w2 ⟨r2, rfl, ⟨r20, r21⟩, s2, c2⟩
        have r22 := r21 (by omega)
        have hc := (show w2.cell? ⟨b, r2.toNat, none⟩ = some (.int .i64 (L.getD r2.toNat 0)) by rw [World.cell?_of_block (c2.block b hb2 (by omega))]; exact HC2.out _ (by omega))
        have hrg := hat.out r2.toNat (by rw [← HN.out]; omega)
        generalize L.getD r2.toNat 0 = y at hc hrg
        have C3 := Lib.hid (C2.out.trans c2)
        have S3 := Lib.hid s2
        clear r21 s2 c2 C2 S2
        go_wp2_with fail
        go_ret
        exact ⟨y, rfl, hrg, S3.out, C3.out⟩
      · have t3 : (r1 == 3) = false := by simp; omega
        have hmn : 1 ≤ min 5 (N : Int) ∧ min 5 (N : Int) ≤ (N : Int) ∧ min 5 (N : Int) ≤ 5 := by omega
        clear h012 h3
        go_wp2_with fail
        generalize min 5 (N : Int) = M at hmn ⊢
        refine (l01Next g M _ S2.out (by omega)).mono ?_
        rintro e w2 ⟨r2, rfl, ⟨r20, r21⟩, s2, c2⟩
        have r22 := r21 (by omega)
        have r23 : r2 < (N : Int) := by omega
        have hc := (show w2.cell? ⟨b, r2.toNat, none⟩ = some (.int .i64 (L.getD r2.toNat 0)) by rw [World.cell?_of_block (c2.block b hb2 (by omega))]; exact HC2.out _ (by omega))
        have hrg := hat.out r2.toNat (by rw [← HN.out]; omega)
        generalize L.getD r2.toNat 0 = y at hc hrg
        have C3 := Lib.hid (C2.out.trans c2)
        have S3 := Lib.hid s2
        clear r21 s2 c2 C2 S2
        go_wp2_with fail
        go_ret
        exact ⟨y, rfl, hrg, S3.out, C3.out⟩
end Go.Proofs.YtnkbcmkngghnoaaDoor.Lib1
