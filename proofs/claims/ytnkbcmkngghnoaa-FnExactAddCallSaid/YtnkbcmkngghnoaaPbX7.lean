/- Chapter 7: the program's IsAuction, AuctionEnded, SeatToCall, LegalCalls, AddCall. (Written by wip/gen7e.py.) -/
import Derived.Test.YtnkbcmkngghnoaaPbA7
import Derived.Test.YtnkbcmkngghnoaaAucU7
namespace Go.Proofs.Ytnkbcmkngghnoaa.Lib1
open Go.RowKit
set_option maxRecDepth 100000

theorem over_is {cs : List Int} {n : Nat} (hv : validTo cs n = true) : endP' (bidP cs n) (passTo cs n) = overTo cs n := (endP hv).symm
theorem valid_of {d : Int} {cs : List Int} {n : Nat} (h : (inB d 0 3 && validTo cs n) = true) : (0 ≤ d ∧ d ≤ 3) ∧ validTo cs n = true := by
  obtain ⟨h1, h2⟩ := Bool.and_eq_true_iff.1 h
  exact ⟨inB_seat h1, h2⟩
theorem endedSt (g : Nat) (d : Int) (cs : List Int) (n : Nat) (w : World) (h : St w g d cs n) (hv : validTo cs n = true) :
    Calls Try.prog 49 #[.pointer (some ⟨g, 0, none⟩)] w fun e w' => e = .returned (.bool (overTo cs n)) ∧ w = w' := by
  obtain ⟨v, hb, _⟩ := h
  have := pass_small hv
  rw [← over_is hv]
  exact ended7 g d v _ _ _ _ w hb (by omega)
theorem turnSt (g : Nat) (d : Int) (cs : List Int) (n : Nat) (w : World) (h : St w g d cs n) (hv : validTo cs n = true) (hd : 0 ≤ d ∧ d ≤ 3) :
    Calls Try.prog 51 #[.pointer (some ⟨g, 0, none⟩)] w fun e w' => e = .returned (.int .i64 ((d + (n : Int)) % 4)) ∧ Chg w w' 0 0 := by
  obtain ⟨A, c, _, hb, _⟩ := h.open
  have := valid_319 hv
  exact turn7 g d A n c _ _ _ _ w hb hd (by omega)
theorem allowsSt (g : Nat) (d x : Int) (cs : List Int) (n : Nat) (w : World) (h : St w g d cs n) (hv : validTo cs n = true) (hd : 0 ≤ d ∧ d ≤ 3) :
    Calls Try.prog 48 #[.pointer (some ⟨g, 0, none⟩), .int .i64 x] w fun e w' => e = .returned (.bool (!overTo cs n && legTo cs n x)) ∧ Chg w w' 0 0 := by
  obtain ⟨A, c, _, hb, _⟩ := h.open
  have := valid_319 hv
  have := pass_small hv
  rw [← allow_is (d := d) hv x]
  exact allows7 g d A n c _ _ _ _ x w hb hd (by omega) (by omega)

/-- The program's IsAuction. -/
theorem impl_IsAuction : IsAucF 20 := fun d A n c zs w h hn hcap => by
  have B0 := Lib.hid (ABox.new w d A n c)
  have H := Lib.hid (h.still (Chg.of_alloc w (.cells #[.int .i64 d, .slice A n c] 26) 0 0))
  have C0 := Lib.hid (Chg.of_alloc w (.cells #[.int .i64 d, .slice A n c] 26) 0 0)
  clear h
  go_enter Try.func20, Try.ntmps20
  go_wp2_with (refine wpList_load_row rfl 26 _ rfl w.heap.size rfl 26 #[.int .i64 d, .slice A n c] (0, 0) _ B0.out Try.underlying26 rfl (auc_info d A n c) ?_)
  refine (biddingOf7 d A n c zs _ H.out hn hcap).mono ?_
  rintro e w1 ⟨g, rfl, hg, hg1, hb, hst⟩
  have C1 := Lib.hid (C0.out.trans (Chg.of_below hb 0 0))
  have HST := Lib.hid hst
  clear hst hb B0 H C0
  go_wp2_with fail
  go_ret
  exact ⟨rfl, C1.out⟩

/-- The program's AuctionEnded. -/
theorem impl_AuctionEnded : EndF 21 := fun d A n c zs w h hn hcap => by
  obtain ⟨R, hR⟩ : ∃ R, R = ((inB d 0 3 && validTo zs n) && overTo zs n) := ⟨_, rfl⟩
  have HR := Lib.hid hR
  rw [← hR]
  clear hR
  have B0 := Lib.hid (ABox.new w d A n c)
  have H := Lib.hid (h.still (Chg.of_alloc w (.cells #[.int .i64 d, .slice A n c] 26) 0 0))
  have C0 := Lib.hid (Chg.of_alloc w (.cells #[.int .i64 d, .slice A n c] 26) 0 0)
  clear h
  go_enter Try.func21, Try.ntmps21
  go_wp2_with (refine wpList_load_row rfl 26 _ rfl w.heap.size rfl 26 #[.int .i64 d, .slice A n c] (0, 0) _ B0.out Try.underlying26 rfl (auc_info d A n c) ?_)
  refine (biddingOf7 d A n c zs _ H.out hn hcap).mono ?_
  rintro e w1 ⟨g, rfl, hg, hg1, hb, hst⟩
  have C1 := Lib.hid (C0.out.trans (Chg.of_below hb 0 0))
  have HST := Lib.hid hst
  clear hst hb B0 H C0
  cases hv : inB d 0 3 && validTo zs n
  · have hr : Hid (R = false) := by show R = false; rw [HR.out, hv]; rfl
    go_wp2_with fail
    go_ret
    exact ⟨ret_bool hr.out.symm, C1.out⟩
  · have hs := HST.out hv
    have hr : Hid (R = overTo zs n) := by show R = _; rw [HR.out, hv]; rfl
    obtain ⟨_, hv2⟩ := valid_of hv
    clear hv HST
    go_wp2_with fail
    refine (endedSt g d zs n _ hs hv2).mono ?_
    rintro e w' ⟨rfl, rfl⟩
    go_wp2_with fail
    go_ret
    exact ⟨ret_bool hr.out.symm, C1.out⟩

/-- The program's SeatToCall. -/
theorem impl_SeatToCall : SeatF 17 := fun d A n c zs w h hn hcap => by
  have HS : Hid (seatV d zs n = if (inB d 0 3 && validTo zs n) && !overTo zs n then (d + (n : Int)) % 4 else -1) := rfl
  have B0 := Lib.hid (ABox.new w d A n c)
  have H := Lib.hid (h.still (Chg.of_alloc w (.cells #[.int .i64 d, .slice A n c] 26) 0 0))
  have C0 := Lib.hid (Chg.of_alloc w (.cells #[.int .i64 d, .slice A n c] 26) 0 0)
  clear h
  go_enter Try.func17, Try.ntmps17
  go_wp2_with (refine wpList_load_row rfl 26 _ rfl w.heap.size rfl 26 #[.int .i64 d, .slice A n c] (0, 0) _ B0.out Try.underlying26 rfl (auc_info d A n c) ?_)
  refine (biddingOf7 d A n c zs _ H.out hn hcap).mono ?_
  rintro e w1 ⟨g, rfl, hg, hg1, hb, hst⟩
  have C1 := Lib.hid (C0.out.trans (Chg.of_below hb 0 0))
  have HST := Lib.hid hst
  clear hst hb B0 H C0
  cases hv : inB d 0 3 && validTo zs n
  · have hr : Hid (seatV d zs n = -1) := by show _ = _; rw [HS.out, hv]; rfl
    go_wp2_with fail
    go_ret
    exact ⟨ret_int hr.out.symm, C1.out⟩
  · have hs := HST.out hv
    obtain ⟨hd, hv2⟩ := valid_of hv
    have HS := Lib.hid (show seatV d zs n = if !overTo zs n then (d + (n : Int)) % 4 else -1 by rw [HS.out, hv]; rfl)
    clear hv HST
    go_wp2_with fail
    refine (endedSt g d zs n _ hs hv2).mono ?_
    rintro e w' ⟨rfl, rfl⟩
    cases ho : overTo zs n
    · have hr : Hid (seatV d zs n = (d + (n : Int)) % 4) := by show _ = _; rw [HS.out, ho]; rfl
      clear ho
      go_wp2_with fail
      refine (turnSt g d zs n _ hs hv2 hd).mono ?_
      rintro e w2 ⟨rfl, c2⟩
      have C2 := Lib.hid (C1.out.trans c2)
      clear c2
      go_wp2_with fail
      go_ret
      exact ⟨ret_int hr.out.symm, C2.out⟩
    · have hr : Hid (seatV d zs n = -1) := by show _ = _; rw [HS.out, ho]; rfl
      clear ho
      go_wp2_with fail
      go_ret
      exact ⟨ret_int hr.out.symm, C1.out⟩

theorem legalTo_len38 (zs : List Int) (n k : Nat) (h : k ≤ 38) : (legalTo zs n k).length ≤ 1048576 := by have := legalTo_len zs n k; omega
/-- The legal calls below k, none if the auction has ended. -/
def legalP (zs : List Int) (n k : Nat) : List Int := if overTo zs n then [] else legalTo zs n k
theorem legalP_len (zs : List Int) (n k : Nat) (h : k ≤ 38) : (legalP zs n k).length ≤ 1048576 := by
  unfold legalP
  split
  · simp
  · exact legalTo_len38 zs n k h
theorem legalP_no {zs : List Int} {n k : Nat} (h : (!overTo zs n && legTo zs n (k : Int)) = false) : legalP zs n (k + 1) = legalP zs n k := by
  unfold legalP
  cases ho : overTo zs n
  · rw [ho] at h
    have : legTo zs n (k : Int) = false := by simpa using h
    simp only [Bool.false_eq_true, if_false]
    rw [legalTo, this]; simp
  · rfl
theorem legalP_yes {zs : List Int} {n k : Nat} (h : (!overTo zs n && legTo zs n (k : Int)) = true) : legalP zs n (k + 1) = legalP zs n k ++ [(k : Int)] := by
  unfold legalP
  have h2 := Bool.and_eq_true_iff.1 h
  have ho : overTo zs n = false := by simpa using h2.1
  rw [ho]
  simp only [Bool.false_eq_true, if_false]
  rw [legalTo, h2.2]; simp
theorem St.blow {w w' : World} {g n : Nat} {d : Int} {cs : List Int} (h : St w g d cs n) (b : Below w.heap.size w w') : St w' g d cs n := h.still (Chg.of_below b _ _)
set_option maxHeartbeats 1600000 in
/-- The program's LegalCalls. -/
theorem impl_LegalCalls : LegF 15 := fun d A n c zs w h hn hcap => by
  have HLG : Hid (legalV d zs n = if (inB d 0 3 && validTo zs n) && !overTo zs n then legalTo zs n 38 else []) := rfl
  have B0 := Lib.hid (ABox.new w d A n c)
  have H := Lib.hid (h.still (Chg.of_alloc w (.cells #[.int .i64 d, .slice A n c] 26) 0 0))
  have C0 := Lib.hid (Chg.of_alloc w (.cells #[.int .i64 d, .slice A n c] 26) 0 0)
  clear h
  go_enter Try.func15, Try.ntmps15
  go_wp2_with (refine wpList_load_row rfl 26 _ rfl w.heap.size rfl 26 #[.int .i64 d, .slice A n c] (0, 0) _ B0.out Try.underlying26 rfl (auc_info d A n c) ?_)
  refine (biddingOf7 d A n c zs _ H.out hn hcap).mono ?_
  rintro e w1 ⟨g, rfl, hg, hg1, hb, hst⟩
  have C1 := Lib.hid (C0.out.trans (Chg.of_below hb 0 0))
  have HST := Lib.hid hst
  clear hst hb B0 H C0
  have z1 := C1.out.size
  cases hv : inB d 0 3 && validTo zs n
  · have hl : Hid (legalV d zs n = []) := by show _ = _; rw [HLG.out, hv]; rfl
    go_wp2_with fail
    go_ret
    exact ⟨_, rfl, by rw [hl.out]; exact OwnV.nil_ _ _, C1.out.to_below⟩
  · have hs := Lib.hid (HST.out hv)
    obtain ⟨hd, hv2⟩ := valid_of hv
    have hl : Hid (legalV d zs n = legalP zs n 38) := by
      show _ = _
      rw [HLG.out, hv]
      unfold legalP
      cases overTo zs n <;> rfl
    clear hv HST HLG
    go_wp2_with fail
    go_loopw [5, 14] (fun u i wr => ∃ k : Nat, k ≤ 38 ∧ i = .int .i64 k ∧ OwnV wr w1.heap.size u (legalP zs n k) ∧ Hid (Below w1.heap.size w1 wr)) (fun _ i _ => 38 - (intOf i).toNat)
    case atStart => exact ⟨0, by omega, rfl, by
      have e : legalP zs n 0 = [] := by unfold legalP; split <;> rfl
      rw [e]; exact OwnV.nil_ _ _, Below.refl _ _⟩
    case round =>
      obtain ⟨k, hk, rfl, ho, hb⟩ := hrel
      by_cases hlt : k < 38
      · have hkl : (k : Int) < 38 := by omega
        have hlen := legalP_len zs n k hk
        have hsr := hs.out.blow hb.out
        have zr := hb.out.size
        have HO := Lib.hid ho
        clear ho
        go_wp2_with fail
        refine (allowsSt g d (k : Int) zs n _ hsr hv2 hd).mono ?_
        rintro e w2 ⟨rfl, c2⟩
        have o2 := HO.out.chg c2 (Nat.zero_le _)
        have HB2 := Lib.hid (Chg.above hb.out c2 zr (.inr rfl))
        have hsz := HB2.out.size
        clear c2 hsr
        cases hleg : !overTo zs n && legTo zs n (k : Int)
        · have hs' := Lib.hid (legalP_no hleg)
          clear hleg
          go_wp2_with fail
          go_roundw
          case rel => exact ⟨k + 1, by omega, by go_num, by rw [hs'.out]; exact o2, HB2.out⟩
          case measure => simp [intOf]; omega
        · have hs' := Lib.hid (legalP_yes hleg)
          clear hleg
          go_wp2_with (at_builtin; refine wpList_push rfl (.tmp 20) (.tmp 22) rfl w1.heap.size _ _ rfl o2 _ rfl hlen hsz ?_; intro v3 w3 o3 b3; have HB3 := Lib.hid (HB2.out.trans b3); clear b3)
          go_roundw
          case rel => exact ⟨k + 1, by omega, by go_num, by rw [hs'.out]; exact o3, HB3.out⟩
          case measure => simp [intOf]; omega
      · obtain rfl : k = 38 := by omega
        go_wp2_with fail
        go_ret
        exact ⟨_, rfl, by rw [hl.out]; exact ho.more z1, C1.out.to_below.trans (hb.out.mono z1)⟩

theorem far_row {w : World} {r g : Nat} {d : Int} {v : Value} {B S T : Int} {P : Nat} (h : PBox w g d v B S T P) (cs : Array Value) (hr : r ≠ g) : PBox (w.setRow r cs) g d v B S T P := (setRow_other w r g cs (fun e => hr e.symm)).trans h
theorem auc_cells7 (d : Int) (A : Option Addr) (n c : Nat) : (#[.int .i64 d, .slice A n c] : Array Value).all (·.oneCell') = true := by kernel_rfl
set_option maxHeartbeats 1600000 in
/-- The program's AddCall. -/
theorem impl_AddCall : AddF 16 := fun d A n c zs x w h hn hcap hnil => by
  have e1 : (w.alloc (.cells #[.int .i64 d, .slice A n c] 26)).heap.size = w.heap.size + 1 := by simp
  have B0 := Lib.hid ((ABox.new w d A n c).still (Chg.of_alloc (w.alloc (.cells #[.int .i64 d, .slice A n c] 26)) (.cells aucZero 26) 0 0))
  have C0 := Lib.hid ((Chg.of_alloc w (.cells #[.int .i64 d, .slice A n c] 26) 0 0).trans (Chg.of_alloc (w.alloc (.cells #[.int .i64 d, .slice A n c] 26)) (.cells aucZero 26) 0 0))
  have Z0 := heap_alloc_new (w.alloc (.cells #[.int .i64 d, .slice A n c] 26)) (.cells aucZero 26)
  rw [e1] at Z0
  have HZ := Lib.hid Z0
  have sz := Lib.hid (show ((w.alloc (.cells #[.int .i64 d, .slice A n c] 26)).alloc (.cells aucZero 26)).heap.size = w.heap.size + 2 by simp)
  have H := Lib.hid ((Rp.of_rd h).still C0.out)
  have hzn := Lib.hid h.1
  have HB := Lib.hid (show addB d zs n x = if !(inB d 0 3 && validTo zs n) then 1 else if overTo zs n then 5 else if !legTo zs n x then 2 else 0 from rfl)
  have HD := Lib.hid (show addD d zs n x = if addB d zs n x = 0 then d else 0 from rfl)
  have HL := Lib.hid (show addL d zs n x = if addB d zs n x = 0 then zs ++ [x] else [] from rfl)
  clear h e1 Z0
  go_enter Try.func16, Try.ntmps16
  go_wp2_with (refine wpList_load_row rfl 26 _ rfl w.heap.size rfl 26 #[.int .i64 d, .slice A n c] (0, 0) _ B0.out Try.underlying26 rfl (auc_info d A n c) ?_)
  try change Calls _ _ _ ((w.alloc (.cells #[.int .i64 d, .slice A n c] 26)).alloc (.cells aucZero 26)) _
  generalize (w.alloc (.cells #[.int .i64 d, .slice A n c] 26)).alloc (.cells aucZero 26) = W at B0 C0 HZ H sz ⊢
  refine (biddingOf7 d A n c zs _ H.out hn hcap).mono ?_
  rintro e w1 ⟨g, rfl, hg, hg1, hb, hst⟩
  have C1 := Lib.hid (C0.out.trans (Chg.of_below hb 0 0))
  have Z1 := Lib.hid ((hb.block (w.heap.size + 1) (by have := sz.out; omega)).trans HZ.out)
  have HST := Lib.hid hst
  have hgw := Lib.hid (show w.heap.size + 2 ≤ g by have := sz.out; omega)
  clear hst hb B0 H C0 HZ sz hg
  cases hv : inB d 0 3 && validTo zs n
  · have hk : Hid (addB d zs n x = 1) := by show _ = _; rw [HB.out, hv]; rfl
    have ZS := Lib.hid (setRow_heap w1 (w.heap.size + 1) _ aucZero _ _ Z1.out)
    have KS := Lib.hid (C1.out.rowC (show w.heap.size ≤ w.heap.size + 1 by omega) aucZero)
    go_wp2_with (refine wpList_store_row rfl 26 _ _ rfl (w.heap.size + 1) aucZero rfl rfl 26 aucZero Z1.out (auc_info _ _ _ _) rfl (auc_cells _ _ _ _) ?_)
    refine bodyPost_ret (v := .tuple #[.agg aucZero, .int .i64 1]) (results_row_tmp Try.results16 _ _ (w.heap.size + 1) 26 aucZero (0, 0) _ _ rfl rfl ZS.out Try.underlying26 rfl (auc_info _ _ _ _)) rfl ?_
    exact ⟨.slice none 0 0, by rw [HD.out, hk.out]; rfl, by rw [HL.out, hk.out]; exact OwnV.nil_ _ _, KS.out.to_below⟩
  obtain ⟨hd, hv2⟩ := valid_of hv
  have hs := HST.out hv
  clear HST
  go_wp2_with fail
  refine (endedSt g d zs n _ hs hv2).mono ?_
  rintro e w' ⟨rfl, rfl⟩
  cases ho : overTo zs n
  rotate_left
  · have hk : Hid (addB d zs n x = 5) := by show _ = _; rw [HB.out, hv, ho]; rfl
    have ZS := Lib.hid (setRow_heap w1 (w.heap.size + 1) _ aucZero _ _ Z1.out)
    have KS := Lib.hid (C1.out.rowC (show w.heap.size ≤ w.heap.size + 1 by omega) aucZero)
    go_wp2_with (refine wpList_store_row rfl 26 _ _ rfl (w.heap.size + 1) aucZero rfl rfl 26 aucZero Z1.out (auc_info _ _ _ _) rfl (auc_cells _ _ _ _) ?_)
    refine bodyPost_ret (v := .tuple #[.agg aucZero, .int .i64 5]) (results_row_tmp Try.results16 _ _ (w.heap.size + 1) 26 aucZero (0, 0) _ _ rfl rfl ZS.out Try.underlying26 rfl (auc_info _ _ _ _)) rfl ?_
    exact ⟨.slice none 0 0, by rw [HD.out, hk.out]; rfl, by rw [HL.out, hk.out]; exact OwnV.nil_ _ _, KS.out.to_below⟩
  have hcg : ∀ j, j < n → zs.getD j 0 = (zs ++ [x]).getD j 0 := fun j hj => (getD_snoc zs x j (by rw [hzn.out]; exact hj)).symm
  have hs2 := Lib.hid (hs.congr hcg)
  have hv3 := Lib.hid ((validTo_congr n hcg).symm.trans hv2)
  have hxl : Hid ((zs ++ [x]).getD n 0 = x) := by show _ = _; rw [← hzn.out]; exact getD_last zs x
  have hov := Lib.hid ((overTo_congr n hcg).symm.trans ho)
  have hlg := Lib.hid (legTo_congr n hcg x)
  clear hs hcg
  go_wp2_with fail
  refine (add7 g d x (zs ++ [x]) n _ hs2.out hv3.out hd hxl.out).mono ?_
  rw [hov.out, ← hlg.out]
  rintro e w2 ⟨rfl, hst, hb2⟩
  have Z2 := Lib.hid ((hb2.block (w.heap.size + 1) (by have := hgw.out; omega)).trans Z1.out)
  have K2 := Lib.hid (C1.out.to_below.trans (hb2.mono (by have := hgw.out; omega)))
  have HST := Lib.hid hst
  clear hst hb2 hs2 C1 Z1
  cases hlx : legTo zs n x
  · have hk : Hid (addB d zs n x = 2) := by show _ = _; rw [HB.out, hv, ho, hlx]; rfl
    have ZS := Lib.hid (setRow_heap w2 (w.heap.size + 1) _ aucZero _ _ Z2.out)
    have KS := Lib.hid (K2.out.trans (rowB w2 (show w.heap.size ≤ w.heap.size + 1 by omega) aucZero))
    go_wp2_with (refine wpList_store_row rfl 26 _ _ rfl (w.heap.size + 1) aucZero rfl rfl 26 aucZero Z2.out (auc_info _ _ _ _) rfl (auc_cells _ _ _ _) ?_)
    refine bodyPost_ret (v := .tuple #[.agg aucZero, .int .i64 2]) (results_row_tmp Try.results16 _ _ (w.heap.size + 1) 26 aucZero (0, 0) _ _ rfl rfl ZS.out Try.underlying26 rfl (auc_info _ _ _ _)) rfl ?_
    exact ⟨.slice none 0 0, by rw [HD.out, hk.out]; rfl, by rw [HL.out, hk.out]; exact OwnV.nil_ _ _, KS.out⟩
  · have hk : Hid (addB d zs n x = 0) := by show _ = _; rw [HB.out, hv, ho, hlx]; rfl
    obtain ⟨B, cb, hcb, hbx, hbo⟩ := (HST.out (by rw [hlx]; rfl)).open
    have hup : Hid (upTo (zs ++ [x]) (n + 1) = zs ++ [x]) := by
      show _ = _
      have := upTo_all (zs ++ [x])
      rwa [List.length_append, hzn.out] at this
    rw [hup.out] at hbo
    have OV := Lib.hid ((hbo.far w2 #[.int .i64 d, .slice B (n + 1) cb] (show w.heap.size + 1 < g + 1 by have := hgw.out; omega)).more (show w.heap.size ≤ g + 1 by have := hgw.out; omega))
    have HX := Lib.hid hbx
    have ZS := Lib.hid (setRow_heap w2 (w.heap.size + 1) _ #[.int .i64 d, .slice B (n + 1) cb] _ _ Z2.out)
    have KS := Lib.hid (K2.out.trans (rowB w2 (show w.heap.size ≤ w.heap.size + 1 by omega) #[.int .i64 d, .slice B (n + 1) cb]))
    clear hbx hbo HST
    go_wp2_with (first | (refine wpList_load_mid rfl 26 _ rfl g 0 rfl [.int .i64 d, .slice B (n + 1) cb] _ HX.out.r0 Try.underlying26 rfl (auc_info7 _ _) ?_) | (refine wpList_store_row rfl 26 _ _ rfl (w.heap.size + 1) #[.int .i64 d, .slice B (n + 1) cb] rfl rfl 26 aucZero Z2.out (auc_info _ _ _ _) rfl (auc_cells _ _ _ _) ?_))
    refine bodyPost_ret (v := .tuple #[.agg #[.int .i64 d, .slice B (n + 1) cb], .int .i64 0]) (results_row_tmp Try.results16 _ _ (w.heap.size + 1) 26 #[.int .i64 d, .slice B (n + 1) cb] (0, 0) _ _ rfl rfl ZS.out Try.underlying26 rfl (auc_info _ _ _ _)) rfl ?_
    exact ⟨_, by rw [HD.out, hk.out]; rfl, by rw [HL.out, hk.out]; exact OV.out, KS.out⟩
end Go.Proofs.Ytnkbcmkngghnoaa.Lib1
