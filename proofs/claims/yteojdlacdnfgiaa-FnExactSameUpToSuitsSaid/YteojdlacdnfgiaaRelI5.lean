/- Chapter 5: the program's RelativeDeal. -/
import Derived.Test.YteojdlacdnfgiaaMadeS5
import Derived.Test.YteojdlacdnfgiaaHold5g
import Derived.Test.YteojdlacdnfgiaaDraws
namespace Go.Proofs.Yteojdlacdnfgiaa.Lib1
open Go.RowKit
set_option maxRecDepth 100000

def relTo (f : Int → Int) (zss : List (List Int)) : Nat → List (List Int)
  | 0 => zss
  | s + 1 => (relTo f zss s).set s ((zss.getD s []).map f)
theorem relTo_length (f : Int → Int) (zss : List (List Int)) : ∀ s, (relTo f zss s).length = zss.length
  | 0 => rfl
  | s + 1 => by rw [relTo, List.length_set, relTo_length f zss s]
theorem relTo_getD (f : Int → Int) (zss : List (List Int)) : ∀ s j, s ≤ j → s ≤ zss.length → (relTo f zss s).getD j [] = zss.getD j []
  | 0, j, _, _ => rfl
  | s + 1, j, h, hl => by rw [relTo, set_getD _ _ _ _ (by rw [relTo_length]; omega), if_neg (by omega), relTo_getD f zss s j (by omega) (by omega)]
theorem relTo_all (f : Int → Int) {zss : List (List Int)} (h : zss.length = 4) : relTo f zss 4 = zss.map fun row => row.map f := by
  obtain ⟨a, b, c, d, rfl⟩ := four_rows h
  rfl
def partL (f : Int → Int) (row : List Int) (i : Nat) : List Int := (row.take i).map f ++ row.drop i
theorem partL_len (f : Int → Int) (row : List Int) (i : Nat) : (partL f row i).length = row.length := by
  unfold partL
  rw [List.length_append, List.length_map, List.length_take, List.length_drop]; omega
theorem partL_at (f : Int → Int) {row : List Int} {i : Nat} (hi : i < row.length) : (partL f row i).getD i 0 = row.getD i 0 := by
  unfold partL
  rw [List.getD_eq_getElem?_getD, List.getElem?_append_right (by simp; omega)]
  simp only [List.length_map, List.length_take, List.getElem?_drop, List.getD_eq_getElem?_getD]
  congr 2; omega
theorem partL_step (f : Int → Int) {row : List Int} {i : Nat} (hi : i < row.length) : (partL f row i).set i (f (row.getD i 0)) = partL f row (i + 1) := by
  unfold partL
  rw [List.set_append_right _ _ (by simp; omega), List.take_succ_eq_append_getElem hi, List.map_append, List.append_assoc, getD_at _ _ hi, List.length_map, List.length_take, Nat.min_eq_left (Nat.le_of_lt hi), Nat.sub_self, List.drop_eq_getElem_cons hi]
  rfl
theorem partL_all (f : Int → Int) (row : List Int) : partL f row row.length = row.map f := by unfold partL; simp

set_option maxHeartbeats 600000 in
theorem impl_RelativeDeal (A : Option Addr) (n c : Nat) (zss : List (List Int)) (lo hi : Nat) (w : World) (h : RdR w lo hi A n zss) :
    Calls Try.prog 61 #[.agg #[.slice A n c]] w (RetD w (relV zss)) := by
  have hz0 : Hid ((w.alloc (.cells #[.slice A n c] 36)).heap.size = w.heap.size + 1) := by show _ = _; simp
  have ca := Lib.hid ((Chg.of_alloc w (.cells #[.slice A n c] 36) 0 0).trans (Chg.of_alloc (w.alloc (.cells #[.slice A n c] 36)) (.cells #[.slice none 0 0] 36) 0 0))
  have D0 := Lib.hid ((BoxAt.new w (.slice A n c) 36 rfl).alloc (.cells #[.slice none 0 0] 36))
  have D1 := Lib.hid (BoxAt.new (w.alloc (.cells #[.slice A n c] 36)) (.slice none 0 0) 36 hz0.out)
  have hb0 := D0.out.c
  cases hd : dealB zss with
  | false =>
    have hv : Hid (relV zss = []) := by show _ = _; simp [relV, hd]
    have HD := Lib.hid hd
    go_enter Try.func61, Try.ntmps61
    go_wp2_with fail
    refine (isDeal A n c zss lo hi _ (h.still ca.out)).mono ?_
    rintro e w1 ⟨rfl, c1⟩
    rw [HD.out]
    have E1 := Lib.hid (D1.out.still c1)
    have p1 := E1.out.c
    have f1 := E1.out.f
    have hret := fun u => E1.out.ret u
    have hcf := Lib.hid ((ca.out.trans c1).cell (g := w.heap.size + 1) (i := 0) (v := .slice none 0 0) (Nat.le_succ _))
    go_wp2_with fail
    (try simp only [Exit.inBlock, Exit.then])
    refine bodyPost_ret (v := .agg #[.slice none 0 0]) (by simp [results, Try.results61, go_sem, hret]; try rfl) rfl ?_
    exact RetD.of_eq hv.out ⟨none, 0, rfl, Nat.le_refl _, OwnR.none_, hcf.out⟩
  | true =>
    have hv : Hid (relV zss = relTo (relF (holderF zss)) zss 4) := by show _ = _; rw [relTo_all _ ((deal_iff zss).1 hd).1]; simp [relV, relRows, hd]
    have HD := Lib.hid hd
    obtain ⟨hz4, hrows, _⟩ := (deal_iff zss).1 hd
    have H51 : Hid (∀ s, s < 4 → ∀ x ∈ zss.getD s [], 0 ≤ x ∧ x ≤ 51) := fun s hs x hx => by
      have := ((hand_iff _).1 (hrows s hs).1).2.2 x hx
      omega
    have H13 : Hid (∀ s, s < 4 → (zss.getD s []).length ≤ 13) := fun s hs => hand_len (hrows s hs).1
    have Z4 := Lib.hid hz4
    have HC := Lib.hid (holder_cases zss)
    clear hd hz4 hrows
    go_enter Try.func61, Try.ntmps61
    go_wp2_with fail
    refine (isDeal A n c zss lo hi _ (h.still ca.out)).mono ?_
    rintro e w1 ⟨rfl, c1⟩
    rw [HD.out]
    have E0 := Lib.hid (D0.out.still c1)
    have hb1 := E0.out.c
    go_wp2_with fail
    refine (holdersOf A n c zss lo hi _ (h.still (ca.out.trans c1)) HD.out).mono ?_
    rintro e w2 ⟨rfl, c2⟩
    have k2 := Lib.hid ((ca.out.trans c1).trans c2)
    have F0 := Lib.hid (E0.out.still c2)
    have F1 := Lib.hid ((D1.out.still c1).still c2)
    generalize holderF zss = f at hv HC ⊢
    have hzs : Hid (zeros52.size = (holdA f).size) := by show _ = _; rw [holdA_size]; rfl
    have hal := Lib.hid (heap_alloc_new w2 (.cells zeros52 97))
    have k3 := Lib.hid ((Chg.of_alloc w2 (.cells zeros52 97) 0 0).row5 (Nat.le_refl _) (holdA f))
    have R3 := Lib.hid (setRow_heap _ _ _ (holdA f) _ _ hal.out)
    have z3 : Hid (((w2.alloc (.cells zeros52 97)).setRow w2.heap.size (holdA f)).heap.size = w2.heap.size + 1) := by show _ = _; rw [setRow_size]; simp
    have hb3 := (F0.out.still k3.out).c
    clear hb1 hb0 c1 c2 ca
    have HI := Lib.hid (hold_info f)
    have HCE := Lib.hid (hold_cells f)
    generalize hR : holdA f = R at hzs k3 R3 z3 hb3 HI HCE ⊢
    have HR := Lib.hid hR
    clear hR
    obtain ⟨w3, hw3⟩ : ∃ w3, w3 = (w2.alloc (.cells zeros52 97)).setRow w2.heap.size R := ⟨_, rfl⟩
    rw [← hw3] at k3 R3 z3 hb3
    have HW3 := Lib.hid hw3
    clear hw3
    go_wp2_with (refine wpList_store_row rfl 97 (.tmp 3) (.tmp 14) rfl w2.heap.size R rfl rfl 97 zeros52 hal.out HI.out hzs.out HCE.out ?_; change wpList _ _ _ _ _ ((w2.alloc (.cells zeros52 97)).setRow w2.heap.size R); rw [← HW3.out])
    refine (copyDeal A n c zss lo hi _ (h.still (k2.out.trans k3.out)) HD.out).mono ?_
    rintro e w4 ⟨b', c', rfl, hc4, hm4, o4, c4⟩
    have ca4 := Lib.hid (Chg.of_alloc w4 (.cells #[.slice (some ⟨b', 0, none⟩) 4 c'] 36) 0 0)
    have k5 := Lib.hid (((k2.out.trans k3.out).trans c4).trans ca4.out)
    have Q5 := Lib.hid (BoxAt.new w4 (.slice (some ⟨b', 0, none⟩) 4 c') 36 rfl)
    have o5 := o4.still ca4.out
    have R5 := Lib.hid ((((c4.trans ca4.out).block _ (by have := z3.out; omega) (.inr (Nat.zero_le _))).trans R3.out))
    have F5 := Lib.hid (((F1.out.still k3.out).still c4).still ca4.out)
    have z5 : Hid ((w4.alloc (.cells #[.slice (some ⟨b', 0, none⟩) 4 c'] 36)).heap.size = w4.heap.size + 1) := by show _ = _; simp
    have z4 := Lib.hid c4.size
    have zw := Lib.hid k2.out.size
    have z1 := Lib.hid F1.out.lt
    have hq5 := Q5.out.c
    clear o4 c4 hb3 hal R3 F0 D0 D1 E0 hm4
    go_wp2_with fail
    clear hq5
    generalize w4.alloc (.cells #[.slice (some ⟨b', 0, none⟩) 4 c'] 36) = w5 at ca4 k5 Q5 o5 R5 F5 z5
    go_loopw [20] (fun i wr => ∃ s : Nat, s ≤ 4 ∧ i = .int .i64 s ∧ OwnR wr w3.heap.size w4.heap.size (some ⟨b', 0, none⟩) 4 (relTo (relF f) zss s) ∧ Chg w5 wr w3.heap.size w4.heap.size) (fun i _ => 4 - (intOf i).toNat)
    case atStart => exact ⟨0, by omega, rfl, o5, Chg.refl _ _ _⟩
    case round =>
      clear o5
      obtain ⟨s, hs, rfl, ho, hch⟩ := hrel
      by_cases hlt : s < 4
      · have hsl : (s : Int) < 4 := by omega
        have hg := relTo_getD (relF f) zss s s (Nat.le_refl _) (by have := Z4.out; omega)
        obtain ⟨b, B, C, l, hh, e1, hcell, hown, hlh, hback⟩ := ho.split hlt
        injection e1 with e1
        injection e1 with e1 _ _
        subst e1
        have HB := Lib.hid hback
        have h13 := H13.out s hlt
        have h51 := Lib.hid (H51.out s hlt)
        have HN : Hid (relTo (relF f) zss (s + 1) = (relTo (relF f) zss s).set s ((zss.getD s []).map (relF f))) := rfl
        rw [hg] at hcell hown HB
        have HLH := Lib.hid hlh
        clear hg hback ho hlh
        generalize relTo (relF f) zss s = X at HB HN
        generalize zss.getD s [] = row at hcell hown HB h13 h51 HN
        obtain ⟨wo, hwo⟩ : ∃ wo, wo = wr := ⟨wr, rfl⟩
        subst hwo
        go_wp2_with fail
        clear hcell
        go_loopw [26] (fun x wr => ∃ i : Nat, i ≤ row.length ∧ x = .int .i64 i ∧ Own wr l hh B row.length (partL (relF f) row i) ∧ Chg wo wr l hh) (fun x _ => row.length - (intOf x).toNat)
        case atStart => exact ⟨0, Nat.zero_le _, rfl, by simpa [partL] using hown, Chg.refl _ _ _⟩
        case round =>
          clear hown
          obtain ⟨i, hi, rfl, ho, hc⟩ := hrel
          by_cases hil : i < row.length
          · have hiI : (i : Int) < (row.length : Int) := by omega
            obtain ⟨rb, cs, rfl, hl1, hl2, hblk, hcs⟩ := ho.2 (by omega)
            have hcell : wr.cell? ⟨rb, i, none⟩ = some (.int .i64 (row.getD i 0)) := by rw [cell_of_row _ _ _ _ _ _ hblk, hcs i hil, partL_at _ hil]
            have hz51 := h51.out (row.getD i 0) (by rw [getD_at _ _ hil]; exact List.getElem_mem _)
            have hst := Lib.hid (partL_step (relF f) hil)
            have hR : wr.heap[w2.heap.size]? = some (.cells R 97 (0, 0)) := by
              refine (hc.block _ ?_ ?_).trans ((hch.block _ ?_ ?_).trans R5.out)
              · have := hch.size; have := z5.out; have := z4.out; have := z3.out; omega
              · have := HLH.out; have := z3.out; omega
              · have := z5.out; have := z4.out; have := z3.out; omega
              · exact .inl (by have := z3.out; omega)
            generalize row.getD i 0 = z at hcell hz51 hst
            obtain ⟨z0, zx1⟩ := hz51
            have hrel := fun W => relativeCard f z W z0 zx1 HC.out
            rw [HR.out] at hrel
            have HK := Lib.hid hblk
            clear hblk hcs
            go_wp2_with (first | (refine wpList_load_row rfl 97 _ rfl w2.heap.size rfl 97 R (0, 0) _ hR Try.underlying97 rfl HI.out ?_) | (go_at_call 99; refine (hrel _).mono ?_; rintro e w6 ⟨rfl, c6⟩; have hc6 := box_still hcell c6; have hf6 : w6.frozen? ⟨rb, i, none⟩ = false := by { simp [World.frozen?, c6.block _ (lt_of_block HK.out) (.inr (Nat.zero_le _)), HK.out] }))
            have ho6 := (ho.still c6).set hil (relF f z)
            rw [hst.out] at ho6
            have hch6 := (hc.trans (c6.any _ _)).store (k := i) hl1 hl2 (.int .i64 (relF f z))
            clear hcell hR hrel
            go_roundw
            case rel => exact ⟨i + 1, by omega, by go_num, ho6, hch6⟩
            case measure => simp [intOf]; omega
          · obtain rfl : i = row.length := by omega
            rw [partL_all] at ho
            have hX := HB.out wr _ (by simp) ho hc
            rw [← HN.out] at hX
            have hch2 : Chg w5 wr w3.heap.size w4.heap.size := by
              rcases HLH.out with ⟨g1, g2⟩ | g1
              · exact hch.trans (hc.more g1 g2)
              · exact hch.trans ⟨hc.os, hc.tape, hc.output, hc.size, fun k hk _ => hc.block k hk (.inr (by omega))⟩
            go_wp2_with fail
            go_roundw
            case rel => exact ⟨s + 1, by omega, by go_num, hX, hch2⟩
            case measure => simp [intOf]; omega
      · obtain rfl : s = 4 := by omega
        rw [← hv.out] at ho
        have hr4 : Hid ((relV zss).length = 4) := by show _ = _; rw [hv.out, relTo_length]; exact Z4.out
        have hq := (show BoxAt wr w4.heap.size (.slice (some ⟨b', 0, none⟩) 4 c') 36 from (hch.block _ Q5.out.lt (.inr (Nat.le_refl _))).trans Q5.out).c
        have F6 := Lib.hid (show BoxAt wr (w.heap.size + 1) (.slice none 0 0) 36 from (hch.block _ F5.out.lt (.inl (by have := z3.out; have := z1.out; omega))).trans F5.out)
        have p1 := F6.out.c
        have f1 := F6.out.f
        have hret := fun u => F6.out.ret u
        have B6 := Lib.hid (Chg.above k5.out.to_below hch k5.out.size (.inl (by have := z3.out; have := zw.out; omega)))
        have B7 := Lib.hid (Below.setAt (i := 0) (u := .slice (some ⟨b', 0, none⟩) 4 c') B6.out (g := w.heap.size + 1) (Nat.le_succ _))
        have hst : Hid (Chg wr (wr.setCell ⟨w.heap.size + 1, 0, none⟩ (.slice (some ⟨b', 0, none⟩) 4 c')) (w.heap.size + 1) (w.heap.size + 2)) := (Chg.refl _ _ _).store (Nat.le_refl _) (by omega) _
        have hsz : Hid (w4.heap.size ≤ wr.heap.size) := by have := hch.size; have := z5.out; show _ ≤ _; omega
        have HO := Lib.hid ho
        clear ho
        go_wp2_with fail
        (try simp only [Exit.inBlock, Exit.then])
        refine bodyPost_ret (v := .agg #[.slice (some ⟨b', 0, none⟩) 4 c']) (by simp [results, Try.results61, go_sem, hret]; try rfl) rfl ?_
        refine ⟨_, c', by rw [hr4.out], by rw [hr4.out]; exact hc4, ?_, Chg.of_below B7.out 0 0⟩
        rw [hr4.out]
        exact (HO.out.chg hst.out (.inr (by have := z3.out; have := z1.out; omega))).more (by have := z3.out; have := zw.out; omega) (Nat.le_trans hsz.out hst.out.size)

end Go.Proofs.Yteojdlacdnfgiaa.Lib1
