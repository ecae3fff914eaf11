/- Chapter 7: the program's IsAuction, AuctionEnded, SeatToCall, LegalCalls, AddCall. (Written by wip/gen7e.py.) -/
import Derived.Test.YtnkbcmkngghnoaaDoorPbA7
import Derived.Test.YtnkbcmkngghnoaaDoorAucU7
namespace Go.Proofs.YtnkbcmkngghnoaaDoor.Lib1
open Go.RowKit
set_option maxRecDepth 100000

theorem over_is {cs : List Int} {n : Nat} (hv : validTo cs n = true) : endP' (bidP cs n) (passTo cs n) = overTo cs n := (endP hv).symm
theorem valid_of {d : Int} {cs : List Int} {n : Nat} (h : (inB d 0 3 && validTo cs n) = true) : (0 ≤ d ∧ d ≤ 3) ∧ validTo cs n = true := by
  obtain ⟨h1, h2⟩ := Bool.and_eq_true_iff.1 h
  exact ⟨inB_seat h1, h2⟩
theorem endedSt (g : Nat) (d : Int) (cs : List Int) (n : Nat) (w : World) (h : St w g d cs n) (hv : validTo cs n = true) :
    Calls Tryd.prog 99 #[.pointer (some ⟨g, 0, none⟩)] w fun e w' => e = .returned (.bool (overTo cs n)) ∧ w = w' := by
  obtain ⟨v, hb, _⟩ := h
  have := pass_small hv
  rw [← over_is hv]
  exact ended7 g d v _ _ _ _ w hb (by omega)
theorem turnSt (g : Nat) (d : Int) (cs : List Int) (n : Nat) (w : World) (h : St w g d cs n) (hv : validTo cs n = true) (hd : 0 ≤ d ∧ d ≤ 3) :
    Calls Tryd.prog 86 #[.pointer (some ⟨g, 0, none⟩)] w fun e w' => e = .returned (.int .i64 ((d + (n : Int)) % 4)) ∧ Chg w w' 0 0 := by
  obtain ⟨A, c, _, hb, _⟩ := h.open
  have := valid_319 hv
  exact turn7 g d A n c _ _ _ _ w hb hd (by omega)
theorem allowsSt (g : Nat) (d x : Int) (cs : List Int) (n : Nat) (w : World) (h : St w g d cs n) (hv : validTo cs n = true) (hd : 0 ≤ d ∧ d ≤ 3) :
    Calls Tryd.prog 84 #[.pointer (some ⟨g, 0, none⟩), .int .i64 x] w fun e w' => e = .returned (.bool (!overTo cs n && legTo cs n x)) ∧ Chg w w' 0 0 := by
  obtain ⟨A, c, _, hb, _⟩ := h.open
  have := valid_319 hv
  have := pass_small hv
  rw [← allow_is (d := d) hv x]
  exact allows7 g d A n c _ _ _ _ x w hb hd (by omega) (by omega)

/-- The program's IsAuction. -/
theorem impl_IsAuction : IsAucF 12 := fun d A n c zs w h hn hcap => by
  have B0 := Lib.hid (ABox.new w d A n c)
  have H := Lib.hid (h.still (Chg.of_alloc w (.cells #[.int .i64 d, .slice A n c] 26) 0 0))
  have C0 := Lib.hid (Chg.of_alloc w (.cells #[.int .i64 d, .slice A n c] 26) 0 0)
  clear h
  go_enter Tryd.func12, Tryd.ntmps12
  go_wp2_with (refine wpList_load_row rfl 26 _ rfl w.heap.size rfl 26 #[.int .i64 d, .slice A n c] (0, 0) _ B0.out Tryd.underlying26 rfl (auc_info d A n c) ?_)
  refine (biddingOf7 d A n c zs _ H.out hn hcap).mono ?_
  rintro e w1 ⟨g, rfl, hg, hg1, hb, hst⟩
  have C1 := Lib.hid (C0.out.trans (Chg.of_below hb 0 0))
  have HST := Lib.hid hst
  clear hst hb B0 H C0
  go_wp2_with fail
  go_ret
  exact ⟨rfl, C1.out⟩



theorem legalTo_len38 (zs : List Int) (n k : Nat) (h : k ≤ 38) : (legalTo zs n k).length ≤ 1048576 := by have := legalTo_len zs n k; omega
/-- The legal calls below k, none if the auction has ended. -/
def legalP (zs : List Int) (n k : Nat) : List Int := if overTo zs n then [] else legalTo zs n k
theorem legalP_len (zs : List Int) (n k : Nat) (h : k ≤ 38) : (legalP zs n k).length ≤ 1048576 := by
  unfold legalP
  split
  · simp
  · exact legalTo_len38 zs n k h
theorem legalP_no {zs : List Int} {n k : Nat} (h : (!overTo zs n && legTo zs n (k : Int)) = false) : legalP zs n (k + 1) = legalP zs n k := by
  unfold legalP
  cases ho : overTo zs n
  · rw [ho] at h
    have : legTo zs n (k : Int) = false := by simpa using h
    simp only [Bool.false_eq_true, if_false]
    rw [legalTo, this]; simp
  · rfl
theorem legalP_yes {zs : List Int} {n k : Nat} (h : (!overTo zs n && legTo zs n (k : Int)) = true) : legalP zs n (k + 1) = legalP zs n k ++ [(k : Int)] := by
  unfold legalP
  have h2 := Bool.and_eq_true_iff.1 h
  have ho : overTo zs n = false := by simpa using h2.1
  rw [ho]
  simp only [Bool.false_eq_true, if_false]
  rw [legalTo, h2.2]; simp
theorem St.blow {w w' : World} {g n : Nat} {d : Int} {cs : List Int} (h : St w g d cs n) (b : Below w.heap.size w w') : St w' g d cs n := h.still (Chg.of_below b _ _)

theorem far_row {w : World} {r g : Nat} {d : Int} {v : Value} {B S T : Int} {P : Nat} (h : PBox w g d v B S T P) (cs : Array Value) (hr : r ≠ g) : PBox (w.setRow r cs) g d v B S T P := (setRow_other w r g cs (fun e => hr e.symm)).trans h
theorem auc_cells7 (d : Int) (A : Option Addr) (n c : Nat) : (#[.int .i64 d, .slice A n c] : Array Value).all (·.oneCell') = true := by kernel_rfl

end Go.Proofs.YtnkbcmkngghnoaaDoor.Lib1
