/- Chapter 7: the model's LegalCalls and AddCall. -/
import Derived.Test.YtnkbcmkngghnoaaAucA7
namespace Go.Proofs.Ytnkbcmkngghnoaa.Lib1
open Go.RowKit
set_option maxRecDepth 100000

/-- The legal calls among the first k. -/
def legalTo (zs : List Int) (n : Nat) : Nat → List Int
  | 0 => []
  | k + 1 => legalTo zs n k ++ if legTo zs n (k : Int) then [(k : Int)] else []
def legalV (d : Int) (zs : List Int) (n : Nat) : List Int := if (inB d 0 3 && validTo zs n) && !overTo zs n then legalTo zs n 38 else []
theorem legalTo_len (zs : List Int) (n : Nat) : ∀ k, (legalTo zs n k).length ≤ k
  | 0 => Nat.le_refl _
  | k + 1 => by have := legalTo_len zs n k; rw [legalTo, List.length_append]; split <;> simp <;> omega
theorem ABox.below {w w' : World} {B g : Nat} {d : Int} {A : Option Addr} {n c : Nat} (h : ABox w g d A n c) (b : Below B w w') (hB : g < B) : ABox w' g d A n c := (b.block g hB).trans h
theorem seatV_range (d : Int) (zs : List Int) (n : Nat) : seatV d zs n = -1 ∨ 0 ≤ seatV d zs n := by unfold seatV; split <;> omega

set_option maxHeartbeats 1600000 in
theorem spec_LegalCalls (d : Int) (A : Option Addr) (n c : Nat) (zs : List Int) (w : World) (h : Rp w A n zs) (hn : n ≤ 1048576) (hcap : n ≤ c) :
    Calls Try.prog 33 #[.agg #[.int .i64 d, .slice A n c]] w (RetV w (legalV d zs n)) := by
  have e1 : (w.alloc (.cells #[.int .i64 d, .slice A n c] 26)).heap.size = w.heap.size + 1 := by simp
  have B0 := Lib.hid ((ABox.new w d A n c).still (Chg.of_alloc (w.alloc (.cells #[.int .i64 d, .slice A n c] 26)) (.cells #[] 2) 0 0))
  have C0 := Lib.hid ((Chg.of_alloc w (.cells #[.int .i64 d, .slice A n c] 26) 0 0).trans (Chg.of_alloc (w.alloc (.cells #[.int .i64 d, .slice A n c] 26)) (.cells #[] 2) 0 0))
  have H := Lib.hid (h.still C0.out)
  have O0 := OwnV.made (w.alloc (.cells #[.int .i64 d, .slice A n c] 26)) (base := w.heap.size + 1) (by rw [e1]; exact Nat.le_refl _)
  rw [e1] at O0
  have OV := Lib.hid O0
  have K0 := Lib.hid ((Below.refl w.heap.size w).alloc (Nat.le_refl _) (.cells #[.int .i64 d, .slice A n c] 26))
  have sz := Lib.hid (show ((w.alloc (.cells #[.int .i64 d, .slice A n c] 26)).alloc (.cells #[] 2)).heap.size = w.heap.size + 2 by simp)
  have KW := Lib.hid (Chg.to_below C0.out)
  clear h O0 e1 K0
  have hsg := Lib.hid (seatV_range d zs n)
  have HLG : Hid (legalV d zs n = if (inB d 0 3 && validTo zs n) && !overTo zs n then legalTo zs n 38 else []) := rfl
  have HSV : Hid (seatV d zs n = if (inB d 0 3 && validTo zs n) && !overTo zs n then (d + (n : Int)) % 4 else -1) := rfl
  go_enter Try.func33, Try.ntmps33
  go_wp2_with (refine wpList_load_row rfl 26 _ rfl w.heap.size rfl 26 #[.int .i64 d, .slice A n c] (0, 0) _ B0.out Try.underlying26 rfl (auc_info d A n c) ?_)
  refine (spec_SeatToCall d A n c zs _ H.out hn hcap).mono ?_
  rintro e w1 ⟨rfl, c1⟩
  have B1 := Lib.hid (B0.out.still c1)
  have H1 := Lib.hid (H.out.still c1)
  have OV1 := Lib.hid (OV.out.chg c1 (Nat.zero_le _))
  have KW1 := Lib.hid (KW.out.trans (Chg.to_below c1 |>.mono (by have := sz.out; omega)))
  have sz1 := Lib.hid (show w.heap.size + 2 ≤ w1.heap.size by have := c1.size; have := sz.out; omega)
  clear c1
  cases hgo : (inB d 0 3 && validTo zs n) && !overTo zs n
  · have hs : seatV d zs n = -1 := by rw [HSV.out, hgo]; rfl
    have hl : Hid (legalV d zs n = []) := by show legalV d zs n = []; rw [HLG.out, hgo]; rfl
    rw [hs]
    go_wp2_with fail
    go_ret
    exact ⟨_, rfl, by rw [hl.out]; exact OV1.out.more (by omega), KW1.out⟩
  · have hs : 0 ≤ seatV d zs n := by
      rcases hsg.out with q | q
      · have hd : 0 ≤ d := by simp [inB] at hgo; omega
        rw [HSV.out, hgo] at q
        simp only [if_true] at q
        omega
      · exact q
    have hl : Hid (legalV d zs n = legalTo zs n 38) := by show legalV d zs n = _; rw [HLG.out, hgo]; rfl
    generalize seatV d zs n = sv at hs
    have hs1 : ¬ sv < 0 := by omega
    have hs2 : decide (sv < 0) = false := decide_eq_false hs1
    clear hgo HSV HLG hsg
    go_wp2_with fail
    go_loopw [3, 4] (fun u i wr => ∃ k : Nat, k ≤ 38 ∧ i = .int .i64 k ∧ OwnV wr (w.heap.size + 1) u (legalTo zs n k) ∧ Hid (Below (w.heap.size + 1) w1 wr)) (fun _ i _ => 38 - (intOf i).toNat)
    case atStart => exact ⟨0, by omega, rfl, OV1.out, Below.refl _ _⟩
    case round =>
      obtain ⟨k, hk, rfl, ho, hb⟩ := hrel
      by_cases hlt : k < 38
      · have hkl : (k : Int) ≤ 37 := by omega
        have hB := (B1.out.below hb.out (by omega)).c1
        have hR := Lib.hid (show Rp wr A n zs from fun hn0 => by
          obtain ⟨q, off, e, hc⟩ := H.out hn0
          obtain ⟨q1, off1, e', hc1⟩ := H1.out hn0
          rw [e] at e'
          injection e' with e'
          injection e' with ea eb _
          subst ea; subst eb
          refine ⟨q, off, e, fun j hj => ?_⟩
          have hq : q < w.heap.size + 1 := by
            have h0 := hc j hj
            have hlt0 : q < _ := lt_of_cell h0
            by_cases hq : q < w.heap.size + 1
            · exact hq
            · have := sz.out
              have hqe : q = w.heap.size + 1 := by simp at hlt0; omega
              subst hqe
              exfalso
              have hb1 : ((w.alloc (.cells #[.int .i64 d, .slice A n c] 26)).alloc (.cells #[] 2)).heap[w.heap.size + 1]? = some (.cells #[] 2 (0, 0)) := by
                have := heap_alloc_new (w.alloc (.cells #[.int .i64 d, .slice A n c] 26)) (.cells #[] 2)
                rwa [show (w.alloc (.cells #[.int .i64 d, .slice A n c] 26)).heap.size = w.heap.size + 1 by simp] at this
              rw [cell_of_row _ _ _ _ _ _ hb1] at h0
              simp at h0
          rw [World.cell?_of_block (hb.out.block q hq)]
          exact hc1 j hj)
        have hlen : (legalTo zs n k).length ≤ 1048576 := by have := legalTo_len zs n k; omega
        have hsz : w.heap.size + 1 ≤ wr.heap.size := by have := hb.out.size; have := sz1.out; omega
        have hstep : Hid (legalTo zs n (k + 1) = legalTo zs n k ++ if legTo zs n (k : Int) then [(k : Int)] else []) := rfl
        cases hleg : legTo zs n (k : Int)
        · have hs' : Hid (legalTo zs n (k + 1) = legalTo zs n k) := by show _ = _; rw [hstep.out, hleg]; simp
          go_wp2_with (go_at_call 60; refine (l07Legal A n c zs (k : Int) _ hR.out hn).mono ?_; rw [hleg]; rintro e w' ⟨rfl, rfl⟩)
          go_roundw
          case rel => exact ⟨k + 1, by omega, by go_num, by rw [hs'.out]; exact ho, hb⟩
          case measure => simp [intOf]; omega
        · have hs' : Hid (legalTo zs n (k + 1) = legalTo zs n k ++ [(k : Int)]) := by show _ = _; rw [hstep.out, hleg]; simp
          go_wp2_with (first | (go_at_call 60; refine (l07Legal A n c zs (k : Int) _ hR.out hn).mono ?_; rw [hleg]; rintro e w' ⟨rfl, rfl⟩) | (at_builtin; refine wpList_push rfl (.tmp 18) (.tmp 20) rfl (w.heap.size + 1) _ _ rfl ho _ rfl hlen hsz ?_; intro v2 w3 o2 b2))
          refine ⟨⟨k + 1, by omega, by congr 1, by rw [hs'.out]; exact o2, hb.out.trans b2⟩, ?_⟩
          simp [intOf]; omega
      · obtain rfl : k = 38 := by omega
        have hf := Lib.hid (KW1.out.trans (hb.out.mono (by omega)))
        have ho' := Lib.hid ho
        go_wp2
        go_ret
        exact ⟨_, rfl, by rw [hl.out]; exact ho'.out.more (by omega), hf.out⟩
end Go.Proofs.Ytnkbcmkngghnoaa.Lib1
