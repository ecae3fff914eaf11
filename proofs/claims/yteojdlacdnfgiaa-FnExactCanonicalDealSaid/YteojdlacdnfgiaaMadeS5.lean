/- Chapter 5: the model's l05Made, RelativeDeal. -/
import Derived.Test.YteojdlacdnfgiaaHl5
import Derived.Test.YteojdlacdnfgiaaBoxI
namespace Go.Proofs.Yteojdlacdnfgiaa.Lib1
open Go.RowKit
set_option maxRecDepth 100000

def fourNil (g : Nat) : Array Value := #[.slice (some ⟨g, 0, none⟩) 0 0, .slice (some ⟨g + 1, 0, none⟩) 0 0, .slice (some ⟨g + 1 + 1, 0, none⟩) 0 0, .slice (some ⟨g + 1 + 1 + 1, 0, none⟩) 0 0]
def fourW (w : World) (g : Nat) : World := ((((w.alloc (.cells #[] 2)).alloc (.cells #[] 2)).alloc (.cells #[] 2)).alloc (.cells #[] 2)).alloc (.cells (fourNil g) 24)
theorem fourW_below (w : World) {g : Nat} (hg : w.heap.size = g) : Below g w (fourW w g) := by
  subst hg
  unfold fourW
  exact (((((Below.refl _ w).alloc (Nat.le_refl _) _).alloc (by simp) _).alloc (by simp; try omega) _).alloc (by simp; try omega) _).alloc (by simp; try omega) _
theorem OwnV.none5 {w : World} {base g : Nat} (hb : base ≤ g) (hg : w.heap[g]? = some (.cells #[] 2 (0, 0))) : OwnV w base (.slice (some ⟨g, 0, none⟩) 0 0) [] :=
  ⟨by simp, .inr ⟨g, 0, #[], rfl, hb, hg, Nat.le_refl _, Nat.zero_le _, by simp, by simp⟩⟩
theorem at_new {w : World} {o : Obj} {k : Nat} (hk : w.heap.size = k) : (w.alloc o).heap[k]? = some o := by subst hk; exact heap_alloc_new w o
theorem fourW_at (w : World) {g : Nat} (hg : w.heap.size = g) : (fourW w g).heap[g]? = some (.cells #[] 2 (0, 0)) ∧ (fourW w g).heap[g + 1]? = some (.cells #[] 2 (0, 0)) ∧ (fourW w g).heap[g + 1 + 1]? = some (.cells #[] 2 (0, 0)) ∧ (fourW w g).heap[g + 1 + 1 + 1]? = some (.cells #[] 2 (0, 0)) ∧ (fourW w g).heap[g + 1 + 1 + 1 + 1]? = some (.cells (fourNil g) 24 (0, 0)) := by
  unfold fourW
  refine ⟨?_, ?_, ?_, ?_, ?_⟩
  · exact (Below.heap_alloc _ _ _ (by simp; omega)).trans ((Below.heap_alloc _ _ _ (by simp; omega)).trans ((Below.heap_alloc _ _ _ (by simp; omega)).trans ((Below.heap_alloc _ _ _ (by simp; omega)).trans (at_new hg))))
  · exact (Below.heap_alloc _ _ _ (by simp; omega)).trans ((Below.heap_alloc _ _ _ (by simp; omega)).trans ((Below.heap_alloc _ _ _ (by simp; omega)).trans (at_new (by simp; omega))))
  · exact (Below.heap_alloc _ _ _ (by simp; omega)).trans ((Below.heap_alloc _ _ _ (by simp; omega)).trans (at_new (by simp; omega)))
  · exact (Below.heap_alloc _ _ _ (by simp; omega)).trans (at_new (by simp; omega))
  · exact at_new (by simp; omega)
theorem OwnVQ.four (w : World) {g : Nat} (hg : w.heap.size = g) : OwnVQ (fourW w g) g (.slice (some ⟨g + 1 + 1 + 1 + 1, 0, none⟩) 4 4) [[], [], [], []] := by
  obtain ⟨h0, h1, h2, h3, h4⟩ := fourW_at w hg
  refine ⟨(fourNil g).toList, ⟨by simp [fourNil], .inr ⟨g + 1 + 1 + 1 + 1, 4, fourNil g, rfl, by omega, h4, by simp, by unfold maxLen; omega, by simp [fourNil], by simp [fourNil]⟩⟩, fun j hj => ?_, fun i j hij hj k hk => ?_⟩
  · have hj : j < 4 := hj
    rcases (by omega : j = 0 ∨ j = 1 ∨ j = 2 ∨ j = 3) with rfl | rfl | rfl | rfl
    · exact OwnV.none5 (Nat.le_refl _) h0
    · exact OwnV.none5 (by omega) h1
    · exact OwnV.none5 (by omega) h2
    · exact OwnV.none5 (by omega) h3
  · have hj : j < 4 := hj
    rcases (by omega : (i = 0 ∧ j = 1) ∨ (i = 0 ∧ j = 2) ∨ (i = 0 ∧ j = 3) ∨ (i = 1 ∧ j = 2) ∨ (i = 1 ∧ j = 3) ∨ (i = 2 ∧ j = 3)) with ⟨rfl, rfl⟩ | ⟨rfl, rfl⟩ | ⟨rfl, rfl⟩ | ⟨rfl, rfl⟩ | ⟨rfl, rfl⟩ | ⟨rfl, rfl⟩ <;> simp [fourNil, Value.ownBlock] at hk ⊢ <;> omega

set_option maxHeartbeats 2000000 in
/-- spec.l05Made -/
theorem l05Made (A : Option Addr) (c : Nat) (L : List (List Int)) (lo hi : Nat) (w : World) (h : RdR w lo hi A 4 L) (hL : HL L) :
    Calls Try.prog 113 #[.slice A 4 c] w (RetD w (madeRows L)) := by
  obtain ⟨_, h13, h03⟩ := hL
  have H13 := Lib.hid h13
  have H03 := Lib.hid h03
  clear h13 h03
  have hz0 : Hid ((w.alloc (.cells #[.slice none 0 0] 36)).heap.size = w.heap.size + 1) := by show _ = _; simp
  have ca := Lib.hid (Chg.of_alloc w (.cells #[.slice none 0 0] 36) 0 0)
  have D0 := Lib.hid (BoxAt.new w (.slice none 0 0) 36 rfl)
  have hf := Lib.hid (OwnVQ.four (w.alloc (.cells #[.slice none 0 0] 36)) hz0.out)
  have hfb := Lib.hid (fourW_below (w.alloc (.cells #[.slice none 0 0] 36)) hz0.out)
  go_enter Try.func113, Try.ntmps113
  go_wp2
  go_loopw [4] (fun i wr => ∃ q : Nat, q ≤ 4 ∧ i = .int .i64 q ∧ OwnVQ wr (w.heap.size + 1) (.slice (some ⟨w.heap.size + 1 + 1 + 1 + 1 + 1, 0, none⟩) 4 4) (rowsSt L q (L.getD q []).length) ∧ Below (w.heap.size + 1) (w.alloc (.cells #[.slice none 0 0] 36)) wr) (fun i _ => 4 - (intOf i).toNat)
  case atStart => exact ⟨0, by omega, rfl, by rw [rowsSt_start]; exact hf.out, hfb.out⟩
  case round =>
    clear hf hfb
    obtain ⟨q, hq, rfl, ho, hb⟩ := hrel
    by_cases hlt : q < 4
    · have hql : (q : Int) < 4 := by omega
      have hzr : w.heap.size + 1 ≤ wr.heap.size := by have := hb.size; rw [hz0.out] at this; exact this
      have cw := Lib.hid (Chg.of_below (ca.out.to_below.trans (hb.mono (Nat.le_succ _))) 0 0)
      obtain ⟨b, off, B, C, rfl, _, _, hcw, hrw, _, _⟩ := h.at_ hlt
      have q1 := box_still hcw cw.out
      have KL : (L.getD q []).length ≤ 13 := H13.out q
      have KX := Lib.hid (H03.out q)
      have KC := Lib.hid hcw
      have KR := Lib.hid hrw
      have HST := Lib.hid (fun k t hk ht hx => rowsSt_step L (q := q) (k := k) (t := t) hk ht hx)
      have HNX := Lib.hid (rowsSt_next L q)
      have HLN := Lib.hid (fun k j => rowsSt_len L H13.out q k j)
      have HLE := Lib.hid (fun k => rowsSt_length L q k)
      generalize hR : rowsSt L q = R at ho HST HNX HLN HLE
      generalize L.getD q [] = row at ho q1 KL KX KC KR HST
      clear hR hcw hrw
      obtain ⟨wo, hwo⟩ : ∃ wo, wo = wr := ⟨wr, rfl⟩
      subst hwo
      go_wp2_with fail
      go_loopw [5] (fun i wr => ∃ (k : Nat) (y : Int), k ≤ row.length ∧ i = .int .i64 y ∧ Hid (y = (k : Int) - 1) ∧ OwnVQ wr (w.heap.size + 1) (.slice (some ⟨w.heap.size + 1 + 1 + 1 + 1 + 1, 0, none⟩) 4 4) (R k) ∧ Below (w.heap.size + 1) (w.alloc (.cells #[.slice none 0 0] 36)) wr) (fun i _ => (intOf i + 1).toNat)
      case atStart => exact ⟨row.length, (row.length : Int) - 1, Nat.le_refl _, rfl, rfl, ho, hb⟩
      case round =>
        clear ho hb cw q1 hzr
        obtain ⟨k, y, hk, rfl, hy, ho, hb⟩ := hrel
        have hzr : w.heap.size + 1 ≤ wr.heap.size := by have := hb.size; rw [hz0.out] at this; exact this
        have cw := Lib.hid (Chg.of_below (ca.out.to_below.trans (hb.mono (Nat.le_succ _))) 0 0)
        cases k with
        | zero =>
          have hy0 : ¬ 0 ≤ y := by have := hy.out; omega
          rw [← HNX.out] at ho
          go_wp2
          go_roundw
          case rel => exact ⟨q + 1, by omega, by go_num, ho, hb⟩
          case measure => simp [intOf]; omega
        | succ k =>
          have hyk : y = (k : Int) := by have := hy.out; omega
          subst hyk
          have hk0 : (0 : Int) ≤ (k : Int) := by omega
          have hkl : (k : Int) < (row.length : Int) := by omega
          have q1 := box_still KC.out cw.out
          obtain ⟨rb, ro, rfl, _, _, hrc⟩ := (KR.out.still cw.out).2 (by omega)
          have q2 := hrc k (by omega)
          have hx := KX.out (row.getD k 0) (by rw [getD_at _ _ (by omega)]; exact List.getElem_mem _)
          obtain ⟨t, ht⟩ : ∃ t : Nat, row.getD k 0 = (t : Int) := ⟨(row.getD k 0).toNat, by omega⟩
          have ht4 : t < 4 := by omega
          have hs := Lib.hid (HST.out k t (by omega) ht4 ht)
          rw [ht] at q2
          have htl : (t : Int) < 4 := by omega
          obtain ⟨g, cap, u, hv, hb1, hb2, hcell, hfr, hou, hback⟩ := ho.grow (j := t) (by rw [HLE.out]; exact ht4)
          have hrl : ((R (k + 1)).getD t []).length ≤ 1048576 := by have := HLN.out (k + 1) t; omega
          obtain ⟨A2, c2, eu, _⟩ := hou.form
          have HB := Lib.hid hback
          rw [HLE.out] at hv
          injection hv with hv1 hv2 hv3
          injection hv1 with hv1
          injection hv1 with hv1 _ _
          subst hv1
          clear hback ho hx ht hrc hv2 hv3
          generalize (R (k + 1)).getD t [] = rw2 at hou hrl hs eu
          subst eu
          go_wp2_with (at_builtin; refine wpList_pushQ rfl _ _ rfl (w.heap.size + 1) _ rw2 rfl hou _ rfl hrl hzr ?_; intro v3 w3 o3 b3 k3 n3; obtain ⟨A3, c3, e3, _⟩ := o3.form; subst e3; obtain ⟨q5, q6, q7⟩ := HB.out w3 _ _ o3 k3 n3)
          have hb3 := hb.trans b3
          rw [← hs.out, show (rw2 ++ [13 * (q : Int) + 12 - (k : Int)]).length = rw2.length + 1 by simp] at q7
          go_roundw
          case rel => exact ⟨k, (k : Int) - 1, by omega, rfl, rfl, q7, hb3.setCell (p := ⟨_, t, none⟩) hb1 _⟩
          case measure => simp [intOf]
    · obtain rfl : q = 4 := by omega
      rw [rowsSt_done] at ho
      have cw := Lib.hid (Chg.of_below (ca.out.to_below.trans (hb.mono (Nat.le_succ _))) 0 0)
      have DW := Lib.hid (show BoxAt wr w.heap.size _ _ from (hb.block _ (Nat.lt_succ_self _)).trans D0.out)
      obtain ⟨A4, c4, e4, hc4, own4⟩ := ho.own
      have hm4 : (madeRows L).length = 4 := rfl
      rw [hm4] at e4 hc4 own4
      injection e4 with e41 _ e43
      subst e41; subst e43
      have HO := Lib.hid own4
      have p1 := DW.out.c
      have f1 := DW.out.f
      have hret := fun u => DW.out.ret u
      have hcf := Lib.hid (cw.out.cell (g := w.heap.size) (i := 0) (v := .slice (some ⟨w.heap.size + 1 + 1 + 1 + 1 + 1, 0, none⟩) 4 4) (Nat.le_refl _))
      have hst : Hid (Chg wr (wr.setCell ⟨w.heap.size, 0, none⟩ (.slice (some ⟨w.heap.size + 1 + 1 + 1 + 1 + 1, 0, none⟩) 4 4)) w.heap.size (w.heap.size + 1)) := (Chg.refl _ _ _).store (Nat.le_refl _) (Nat.lt_succ_self _) _
      clear ho own4 hm4
      go_wp2_with fail
      (try simp only [Exit.inBlock, Exit.then])
      refine bodyPost_ret (v := .agg #[.slice (some ⟨w.heap.size + 1 + 1 + 1 + 1 + 1, 0, none⟩) 4 4]) (by simp [results, Try.results113, go_sem, hret]; try rfl) rfl ?_
      exact ⟨_, 4, rfl, Nat.le_refl _, (HO.out.chg hst.out (.inr (Nat.le_refl _))).more (Nat.le_succ _) hst.out.size, hcf.out⟩

theorem RetD.of_eq {w w' : World} {zss zss' : List (List Int)} {e : Ending} (h1 : zss' = zss) (h : RetD w zss e w') : RetD w zss' e w' := by subst h1; exact h

end Go.Proofs.Yteojdlacdnfgiaa.Lib1
