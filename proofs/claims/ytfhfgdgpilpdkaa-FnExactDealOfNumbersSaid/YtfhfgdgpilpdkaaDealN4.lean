/- Chapter 4: DealNumbers (program and model). -/
import Derived.Test.YtfhfgdgpilpdkaaSubI4
import Derived.Test.YtfhfgdgpilpdkaaL03x
import Derived.Test.YtfhfgdgpilpdkaaLaw3d
namespace Go.Proofs.Ytfhfgdgpilpdkaa.Lib1
open Go.RowKit
set_option maxRecDepth 100000

def RetLB (w : World) (zs : List Int) (b : Bool) (e : Ending) (w' : World) : Prop :=
  ∃ A c, e = .returned (.tuple #[.slice A zs.length c, .bool b]) ∧ zs.length ≤ c ∧ Plain A c ∧ Own w' w.heap.size w'.heap.size A zs.length zs ∧ Chg w w' 0 0
theorem RetLB.of_V {w w1 w' : World} {V : Value} {zs : List Int} {k : Bool} (hb : Chg w w1 0 0) (o : OwnV w' w1.heap.size V zs) (b : Below w1.heap.size w1 w') : RetLB w zs k (.returned (.tuple #[V, .bool k])) w' := by
  obtain ⟨A, c, rfl, h1, h2, h3⟩ := o.form
  have hs := hb.size
  exact ⟨A, c, rfl, h1, h2, h3.more hs (Nat.le_refl _), hb.trans (Chg.of_below b _ _)⟩
theorem RetLB.of_eq {w w' : World} {zs zs' : List Int} {k k' : Bool} {e : Ending} (h1 : zs' = zs) (h2 : k' = k) (h : RetLB w zs k e w') : RetLB w zs' k' e w' := by rw [h1, h2]; exact h

def dnV (zss : List (List Int)) : List Int := if dealB zss = true then numsL (cardsF zss 52) (zss.take 3) else []
theorem dnV_no {zss : List (List Int)} (h : dealB zss = false) : dnV zss = [] := by simp [dnV, h]
theorem dnV_yes {zss : List (List Int)} (h : dealB zss = true) : dnV zss = numsL (cardsF zss 52) (zss.take 3) := by simp [dnV, h]
theorem numsL_length : ∀ (rows : List (List Int)) (L : List Int), (numsL L rows).length = rows.length
  | [], _ => rfl
  | h :: hs, L => by simp [numsL, numsL_length hs]
theorem dnV_len (zss : List (List Int)) : (dnV zss).length ≤ 3 := by
  unfold dnV
  split
  · rw [numsL_length]; simp; omega
  · simp
theorem cardsF_len52 (zss : List (List Int)) : (cardsF zss 52).length ≤ 52 := cardsF_len zss 52
theorem RdR.cut {w : World} {lo hi : Nat} {A : Option Addr} {n k : Nat} {zss : List (List Int)} (h : RdR w lo hi A n zss) (hk : k ≤ n) : RdR w lo hi A k (zss.take k) := by
  obtain ⟨h0, B, C, h1, h2⟩ := h
  have e : ∀ j, j < k → (zss.take k).getD j [] = zss.getD j [] := fun j hj => by simp [List.getD_eq_getElem?_getD, hj]
  refine ⟨by simp; omega, B, C, fun hn => ?_, fun j hj => ?_⟩
  · obtain ⟨b, off, ea, l1, l2, hc⟩ := h1 (by omega)
    exact ⟨b, off, ea, l1, l2, fun j hj => by rw [e j hj]; exact hc j (by omega)⟩
  · rw [e j hj]; exact h2 j (by omega)
theorem RdR.all {w : World} {lo hi : Nat} {A : Option Addr} {n : Nat} {zss : List (List Int)} (h : RdR w lo hi A n zss) : RdR w 0 w.heap.size A n zss := by
  obtain ⟨h0, B, C, h1, h2⟩ := h
  refine ⟨h0, B, C, fun hn => ?_, fun j hj => ?_⟩
  · obtain ⟨b, off, ea, l1, l2, hc⟩ := h1 hn
    exact ⟨b, off, ea, Nat.zero_le _, lt_of_cell (hc 0 hn), hc⟩
  · obtain ⟨q1, q2⟩ := h2 j hj
    exact ⟨q1.all, q2⟩

theorem pool_deal (A : Option Addr) (n c : Nat) (zss : List (List Int)) (w : World) (h : RdR w 0 w.heap.size A n zss) :
    Calls Try.prog 179 #[.agg #[.slice A n c]] w (Pool (dealCards zss) w) := by
  have ba := Lib.hid (Chg.of_alloc w (.cells #[.slice A n c] 95) 0 0)
  have hbx := box_at w (.slice A n c) 95
  go_enter Try.func179, Try.ntmps179
  go_wp2_with fail
  refine (cardsOfDeal A n c zss _ _ _ (h.still ba.out)).mono ?_
  rintro e w1 ⟨X, cx, rfl, _, px, ox, c1⟩
  go_wp2_with fail
  go_ret
  exact ⟨_, _, _, rfl, ox.rd.all, px.nil, (ba.out.trans c1).to_below⟩

theorem choices_deal (b off c : Nat) (zss : List (List Int)) (w : World) (h : RdR w 0 w.heap.size (some ⟨b, off, none⟩) 4 zss) (hc : 4 ≤ c) :
    Calls Try.prog 136 #[.iface 95 (.agg #[.slice (some ⟨b, off, none⟩) 4 c])] w (Choices 3 (zss.take 3) w) := by
  have ha := as_deal (.agg #[.slice (some ⟨b, off, none⟩) 4 c])
  have hn := as_not (.agg #[.slice (some ⟨b, off, none⟩) 4 c])
  have ba := Lib.hid (Chg.of_alloc w (.cells #[.slice (some ⟨b, off, none⟩) 4 c] 95) 0 0)
  have hh := Lib.hid ((h.cut (show 3 ≤ 4 by omega)).still ba.out).all
  have hc3 : (3 : Int) ≤ (c : Int) := by omega
  have hc3' : 3 ≤ c := by omega
  clear h
  go_enter Try.func136, Try.ntmps136
  go_wp2
  go_ret
  exact ⟨b, off, _, rfl, hh.out, ba.out.to_below⟩

set_option maxHeartbeats 1000000 in
theorem impl_DealNumbers (A : Option Addr) (n c : Nat) (zss : List (List Int)) (lo hi : Nat) (w : World) (h : RdR w lo hi A n zss) (hnc : n ≤ c) :
    Calls Try.prog 45 #[.agg #[.slice A n c]] w (RetLB w (dnV zss) (dealB zss)) := by
  have ca := Lib.hid (Chg.of_alloc w (.cells #[.slice A n c] 26) 0 0)
  have hbx := box_at w (.slice A n c) 26
  cases hd : dealB zss with
  | false =>
    have e1 := Lib.hid (dnV_no hd)
    have HD := Lib.hid hd
    clear hd
    go_enter Try.func45, Try.ntmps45
    go_wp2_with fail
    refine (isDeal A n c zss _ _ _ (h.still ca.out)).mono ?_
    rw [HD.out]
    rintro e w1 ⟨rfl, c1⟩
    go_wp2_with fail
    go_ret2
    exact RetLB.of_eq e1.out rfl ⟨none, 0, rfl, Nat.le_refl _, Plain.nil_, Own.none_, ca.out.trans c1⟩
  | true =>
    have e1 := Lib.hid (dnV_yes hd)
    have HD := Lib.hid hd
    have hz4 : n = 4 := by rw [← h.1]; exact ((deal_iff zss).1 hd).1
    subst hz4
    have hfew := Lib.hid (deal_few hd)
    have hdc : Hid (dealCards zss = cardsF zss 52) := by show _ = _; simp [dealCards, hd]
    obtain ⟨b, off, _, _, rfl, _⟩ := h.at_ (j := 0) (by omega)
    clear hd
    go_enter Try.func45, Try.ntmps45
    go_wp2_with fail
    refine (isDeal _ 4 c zss _ _ _ (h.still ca.out)).mono ?_
    rw [HD.out]
    rintro e w1 ⟨rfl, c1⟩
    have c2 := ca.out.trans c1
    have hb1 := box_still hbx c1
    have h1 := (h.still c2).all
    clear c1 hbx h
    have hnum := numbers_deal (some ⟨b, off, none⟩) 4 c (dealCards zss) (zss.take 3) 3 w1 (by omega) (by rw [hdc.out]; exact cardsF_len52 zss)
      (fun j => by
        by_cases hj : j < 3
        · rw [show (zss.take 3).getD j [] = zss.getD j [] by simp [List.getD_eq_getElem?_getD, hj]]
          have := hfew.out j; omega
        · rw [List.getD_eq_getElem?_getD, List.getElem?_eq_none (by simp; omega)]; simp)
      (pool_deal _ 4 c zss w1 h1) (fun w2 b2 => choices_deal b off c zss w2 (h1.below b2 (Nat.le_refl _)).all hnc)
    rw [hdc.out] at hnum
    clear h1
    go_wp2_with fail
    refine hnum.mono ?_
    rintro e w3 ⟨V, rfl, o3, b3⟩
    go_wp2_with fail
    go_ret2
    exact RetLB.of_eq e1.out rfl (RetLB.of_V c2 o3 b3)

set_option maxHeartbeats 4000000 in
theorem spec_DealNumbers (A : Option Addr) (n c : Nat) (zss : List (List Int)) (lo hi : Nat) (w : World) (h : RdR w lo hi A n zss) (hn : n ≤ 1048576) (hl : ∀ j, j < n → (zss.getD j []).length ≤ 1048576) :
    Calls Try.prog 58 #[.agg #[.slice A n c]] w (RetLB w (dnV zss) (dealB zss)) := by
  obtain ⟨wa, hwa⟩ : ∃ wa, wa = w.alloc (.cells #[.slice A n c] 26) := ⟨_, rfl⟩
  have ca := Lib.hid (Chg.of_alloc w (.cells #[.slice A n c] 26) 0 0)
  have hbx := Lib.hid (box_at w (.slice A n c) 26)
  have hsz : Hid ((w.alloc (.cells #[.slice A n c] 26)).heap.size = w.heap.size + 1) := by show _ = _; simp
  have om := Lib.hid (OwnV.made (w.alloc (.cells #[.slice A n c] 26)) (Nat.le_refl _))
  have cm := Lib.hid (Chg.of_alloc (w.alloc (.cells #[.slice A n c] 26)) (.cells #[] 2) 0 0)
  rw [← hwa] at ca hbx hsz om cm
  have HWA := Lib.hid hwa
  cases hd : dealB zss with
  | false =>
    have e1 := Lib.hid (dnV_no hd)
    have HD := Lib.hid hd
    clear hd
    subst hwa
    go_enter Try.func58, Try.ntmps58
    go_wp2_with fail
    refine (l03Deal A n c zss _ _ _ ((h.still ca.out).still cm.out) hl).mono ?_
    rw [HD.out]
    rintro e w1 ⟨rfl, c1⟩
    go_wp2_with fail
    go_ret2
    exact RetLB.of_eq e1.out rfl ⟨_, _, rfl, Nat.le_refl _, Plain.at_ _ _ _, Own.none_, (ca.out.trans cm.out).trans c1⟩
  | true =>
    have e1 := Lib.hid (dnV_yes hd)
    have HD := Lib.hid hd
    have hz4 : n = 4 := by rw [← h.1]; exact ((deal_iff zss).1 hd).1
    subst hz4
    have hfew := Lib.hid (deal_few hd)
    have HRL : Hid ((zss.take 3).length = 3) := by show _ = _; simp [h.1]
    obtain ⟨b, off, _, _, rfl, _⟩ := h.at_ (j := 0) (by omega)
    clear hd
    subst hwa
    go_enter Try.func58, Try.ntmps58
    go_wp2_with fail
    refine (l03Deal _ 4 c zss _ _ _ ((h.still ca.out).still cm.out) hl).mono ?_
    rw [HD.out]
    rintro e w1 ⟨rfl, c1⟩
    have k1 := Lib.hid ((ca.out.trans cm.out).trans c1)
    have m1 := Lib.hid (cm.out.trans c1)
    have hb1 := box_still hbx.out m1.out
    have o1 := om.out.chg c1 (Nat.zero_le _)
    have hk1 : w.heap.size + 1 < w1.heap.size := by have := c1.size; simp at this; omega
    clear c1
    go_wp2_with fail
    refine (l03Cards _ 4 c zss _ _ _ (h.still k1.out) hn hl).mono ?_
    rintro e w2 ⟨V, rfl, o2, b2⟩
    obtain ⟨X0, cx0, rfl, _, px0, ox0⟩ := o2.form
    have m2 := Lib.hid (m1.out.trans (Chg.of_below b2 0 0))
    have k2 := Lib.hid (k1.out.trans (Chg.of_below b2 0 0))
    have o12 := Lib.hid (o1.kept b2)
    have hc52 := cardsF_len52 zss
    have hp0 := Lib.hid px0.nil
    have hr0 := Lib.hid ox0.rd
    have H := Lib.hid h.all
    have hbw : b < w.heap.size := by obtain ⟨b', off', _, _, eb, _, hlt', _⟩ := H.out.at_ (show 0 < 4 by omega); cases eb; exact hlt'
    clear o2 b2 o1 h px0 ox0 hb1
    generalize hnx : (cardsF zss 52).length = nx0 at hc52 hr0
    have HNX := Lib.hid hnx
    clear hnx
    go_wp2_with fail
    go_loopw [4, 5, 6] (fun nv lv i wr => ∃ (j lo nx cx : Nat) (X : Option Addr) (Lj ys : List Int), j ≤ 3 ∧ i = .int .i64 j ∧ lv = .slice X nx cx ∧ nx ≤ 52 ∧ (X = none → cx = 0) ∧ Rd wr lo wr.heap.size X nx Lj ∧ OwnV wr (w.alloc (.cells #[.slice (some ⟨b, off, none⟩) 4 c] 26)).heap.size nv ys ∧ (∀ q, nv.ownBlock = some q → q < lo) ∧ Below (w.alloc (.cells #[.slice (some ⟨b, off, none⟩) 4 c] 26)).heap.size (w.alloc (.cells #[.slice (some ⟨b, off, none⟩) 4 c] 26)) wr ∧ Hid (numsL (cardsF zss 52) (zss.take 3) = ys ++ numsL Lj ((zss.take 3).drop j) ∧ ys.length = j)) (fun _ _ i _ => 3 - (intOf i).toNat)
    case atStart => exact ⟨0, w1.heap.size, nx0, cx0, X0, cardsF zss 52, [], Nat.zero_le _, rfl, rfl, hc52, hp0.out, hr0.out, (by have q := o12.out; simp only [hsz.out] at q ⊢; exact q), (fun q hq => by simp [Value.ownBlock] at hq; omega), m2.out.to_below, by exact ⟨by simp, rfl⟩⟩
    case round =>
      obtain ⟨j, lo, nx, cx, X, Lj, ys, hj, rfl, rfl, hnx, hpx, hrd, ho, hdis, hb, hN⟩ := hrel
      by_cases hlt : j < 3
      · have hjl : (j : Int) < 3 := by omega
        have hjr : j < (zss.take 3).length := by rw [HRL.out]; exact hlt
        have hbox := box_still hbx.out (Chg.of_below hb 0 0)
        have hrows := (H.out.still ca.out).still (Chg.of_below hb 0 0)
        obtain ⟨b', off', B, C, eb, _, _, hcell, hrow, _, _⟩ := hrows.at_ (show j < 4 by omega)
        cases eb
        have er : (zss.take 3).getD j [] = zss.getD j [] := by simp [List.getD_eq_getElem?_getD, hlt]
        have hr52 : (zss.getD j []).length ≤ 52 := by have := hfew.out j; omega
        have hst := Lib.hid (nums_step (L := Lj) hjr)
        rw [er] at hst
        have hylen : ys.length ≤ 1048576 := by rw [hN.out.2]; omega
        have hsize := hb.size
        have hN' : Hid (numsL (cardsF zss 52) (zss.take 3) = (ys ++ [(rankN Lj (zss.getD j []) : Int)]) ++ numsL (restL Lj (zss.getD j [])) ((zss.take 3).drop (j + 1)) ∧ (ys ++ [(rankN Lj (zss.getD j []) : Int)]).length = j + 1) := by
          refine ⟨?_, by simp [hN.out.2]⟩
          rw [hN.out.1, hst.out]; simp
        clear hst hN hjr er hrows
        generalize zss.getD j [] = R at hcell hrow hr52 hN'
        have hjn : j < 4 := by omega
        have hjn' : (j : Int) < 4 := by omega
        have hnr : R.length ≤ 1048576 := by omega
        have hnx' : nx ≤ 1048576 := by omega
        have hrl := restL_le Lj R
        have hLj := hrd.1
        go_wp2_with fail
        refine (l04Rank X B nx cx R.length C Lj R _ _ _ _ _ hrd hrow hnx hr52).mono ?_
        rintro e w3 ⟨rfl, hq⟩
        have c3 := Chg.of_drew hq 0 0
        have z3 := c3.size
        have ho3 := ho.chg c3 (Nat.zero_le _)
        have hrd3 := hrd.still c3
        have hrow3 := hrow.still c3
        have hb3 := hb.trans (c3.to_below.mono hsize)
        have hsize3 := hb3.size
        have hbox3 := box_still hbox c3
        have hcell3 := box_still hcell c3
        have hbB : b < (w.alloc (.cells #[.slice (some ⟨b, off, none⟩) 4 c] 26)).heap.size := by rw [hsz.out]; omega
        have hwB : w.heap.size < (w.alloc (.cells #[.slice (some ⟨b, off, none⟩) 4 c] 26)).heap.size := by rw [hsz.out]; omega
        have hwB' := Nat.le_of_lt hwB
        clear ho hrd hrow hb hbox hcell hq c3 hsize
        go_wp2_with (first | (at_builtin; refine wpList_pushK rfl _ _ rfl (w.alloc (.cells #[.slice (some ⟨b, off, none⟩) 4 c] 26)).heap.size _ _ rfl ho3 _ rfl hylen hsize3 ?_; intro v4 w4 o4 b4 k4; have hrd4 := hrd3.keptBut (w' := w4) (fun q h1 h2 => k4 q h2 (fun e => by have := hdis q e; omega)); have hrow4 := hrow3.below b4 hwB'; have hbox4 := cell_below hbox3 b4 hwB; have hcell4 := cell_below hcell3 b4 hbB) | (go_at_call 110; refine (l04Rest X B nx cx R.length C Lj R _ _ _ _ _ hrd4 hrow4 hnx' hnr).mono ?_; rintro e w5 ⟨v5, rfl, o5, b5⟩; obtain ⟨X5, c5, rfl, l5, pl5, own5⟩ := o5.form))
        have hb4 := hb3.trans b4
        have hd4 := o4.block_lt
        have hb5 := hb4.trans (b5.mono hb4.size)
        have o45 := o4.kept b5
        clear ho3 hb3 b4 k4 hrd3 hrow3 hrd4 hrow4 hdis o5 b5 o4 hcell3 hcell4 hbox3 hbox4
        go_roundw
        case rel => exact ⟨j + 1, w4.heap.size, (restL Lj R).length, c5, X5, restL Lj R, _, by omega, by go_num, rfl, by omega, pl5.nil, own5.rd, o45, hd4, hb5, hN'⟩
        case measure => simp [intOf]; omega
      · obtain rfl : j = 3 := by omega
        have hf : Hid (numsL (cardsF zss 52) (zss.take 3) = ys) := by show _ = _; rw [hN.out.1, nums_end (by rw [HRL.out]; exact Nat.le_refl _), List.append_nil]
        clear hN
        go_wp2_with fail
        go_ret2
        exact RetLB.of_eq (e1.out.trans hf.out) rfl (RetLB.of_V ca.out ho hb)
end Go.Proofs.Ytfhfgdgpilpdkaa.Lib1
