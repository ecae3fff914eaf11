/- The law FnDealText: a deal is recovered from its text, and an accepted text is the text of its deal. (Written by wip/gen3t.py.) -/
import Derived.Test.YteojdlacdnfgiaaDoorReadDI
import Derived.Test.YteojdlacdnfgiaaDoorDTextJ
import Derived.Test.YteojdlacdnfgiaaDoorDraw2
import Derived.Test.YteojdlacdnfgiaaDoorDraw3b
import Derived.Test.YteojdlacdnfgiaaDoorTextD3
namespace Go.Proofs.YteojdlacdnfgiaaDoor.Lib1
open Go.RowKit
set_option maxRecDepth 100000

def DrewDeal3 (w : World) (e : Ending) (w' : World) : Prop :=
  ∃ A n c zss, e = .returned (.agg #[.slice A n c]) ∧ n ≤ 4 ∧ n ≤ c ∧ RdR w' w.heap.size w'.heap.size A n zss ∧ (∀ j, (zss.getD j []).length ≤ 15) ∧ Below w.heap.size w w'
set_option maxHeartbeats 1000000 in
theorem DrawDealText (A : Option Addr) (n c : Nat) (w : World) (h : Bytes w A n) (hn : n ≤ 1048576) :
    Calls Tryd.prog 15 #[.slice A n c] w (DrewDeal3 w) := by
  have ca := Lib.hid (Chg.of_alloc w (.cells #[.slice none 0 0] 35) 0 0)
  have R0 := Lib.hid (BoxAt.new w (.slice none 0 0) 35 rfl)
  have hB0 := Lib.hid (h.chg (ca.out.any w.heap.size w.heap.size))
  have hz0 : Hid ((w.alloc (.cells #[.slice none 0 0] 35)).heap.size = w.heap.size + 1) := by show _ = _; simp
  go_enter Tryd.func15, Tryd.ntmps15
  go_wp2_with fail
  generalize w.alloc (.cells #[.slice none 0 0] 35) = w0 at ca R0 hB0 hz0
  refine (l01From A n c _ hB0.out hn).mono ?_
  rintro e w1 ⟨rfl, s1, b1⟩
  have hg := s1.lt
  have l0 : w.heap.size < w0.heap.size := by rw [hz0.out]; omega
  have R1 := Lib.hid (show BoxAt w1 w.heap.size (.slice none 0 0) 35 from (b1.block _ l0).trans R0.out)
  have B1 := Lib.hid ((ca.out.to_below).trans (b1.mono (Nat.le_of_lt l0)))
  clear R0 hB0 b1 ca hz0
  go_wp2_with fail
  refine (l03DrawAny _ _ s1).mono ?_
  rintro e w2 ⟨A2, n2, c2, zss, rfl, hn2, hc2, rd2, h15, s2, k2⟩
  have R2 := Lib.hid (R1.out.far k2 (by omega))
  have B2 := Lib.hid (Chg.above B1.out k2 B1.out.size (.inl (Nat.le_of_lt l0)))
  have z1 := B1.out.size
  have p2 := R2.out.c
  have f2 := R2.out.f
  have hret := fun u => R2.out.ret u
  have st : Hid (Chg w2 (w2.setCell ⟨w.heap.size, 0, none⟩ (.slice A2 n2 c2)) w.heap.size (w.heap.size + 1)) := (Chg.refl _ _ _).store (Nat.le_refl _) (by show w.heap.size < w.heap.size + 1; omega) _
  have hfin : Hid (DrewDeal3 w (.returned (.agg #[.slice A2 n2 c2])) (w2.setCell ⟨w.heap.size, 0, none⟩ (.slice A2 n2 c2))) :=
    ⟨A2, n2, c2, zss, rfl, hn2, hc2, (rd2.chg st.out (.inr (by omega))).more (by omega) st.out.size, h15, Chg.above B2.out st.out B2.out.size (.inl (Nat.le_refl _))⟩
  clear s1 s2 rd2 k2 R1 R2 B1 B2 st
  go_wp2_with fail
  (try simp only [Exit.inBlock, Exit.then])
  refine bodyPost_ret (v := .agg #[.slice A2 n2 c2]) (by simp [results, Tryd.results15, go_sem, hret]; try rfl) rfl ?_
  exact hfin.out
set_option maxHeartbeats 1000000 in
theorem DrawReadDeal (A : Option Addr) (n c : Nat) (w : World) (h : Bytes w A n) (hn : n ≤ 1048576) :
    Calls Tryd.prog 20 #[.slice A n c] w fun e w' => ∃ u : ByteArray, e = .returned (.string u) ∧ u.size ≤ 2048 ∧ Below w.heap.size w w' := by
  go_enter Tryd.func20, Tryd.ntmps20
  go_wp2_with fail
  refine (l01From A n c _ h hn).mono ?_
  rintro e w1 ⟨rfl, s1, b1⟩
  have hg := s1.lt
  go_wp2_with fail
  refine (l03DrawAny _ _ s1).mono ?_
  rintro e w2 ⟨A2, n2, c2, zss, rfl, hn2, hc2, rd2, h15, s2, k2⟩
  go_wp2_with fail
  refine (spec_DealText A2 n2 c2 zss _ _ _ rd2 (fun j _ => by have := h15 j; omega)).mono ?_
  rintro e w4 ⟨rfl, c4⟩
  have s4 := s2.still c4
  have k4 := k2.trans (c4.any w.heap.size (w.heap.size + 1))
  have hts : (⟨(dealText zss).toArray⟩ : ByteArray).size ≤ 1024 := by
    rw [str_size]
    have := dealText_le zss
    omega
  go_wp2_with fail
  refine (l02Damage _ _ _ s4 hts).mono ?_
  rintro e w5 ⟨u, rfl, hu, s5, k5⟩
  go_wp2_with fail
  go_ret
  exact ⟨u, rfl, hu, below_draw b1 (k4.trans k5) (Nat.le_refl _) hg⟩
theorem read_back {zss : List (List Int)} (hd : dealB zss = true) (w : World) (hk : KM w) : Calls Tryd.prog 18 #[.string ⟨(dealText zss).toArray⟩] w (RetDB w zss true) := by
  have q := impl_ReadDeal ⟨(dealText zss).toArray⟩ w (by rw [str_size]; have := dealText_le zss; omega) hk
  change Calls _ _ _ _ (RetDB w (rdDV (dealText zss)) (rdDB (dealText zss))) at q
  rw [(readd_text hd).1, (readd_text hd).2] at q
  exact q

set_option maxHeartbeats 3000000 in
theorem law_DealTexts (A : Option Addr) (n c : Nat) (w : World) (h : Bytes w A n) (hA : A = none → c = 0) (hk0 : KM w) :
    Calls Tryd.prog 4 #[.slice A n c] w fun e w' => e = .returned (.bool true) ∧ Below w.heap.size w w' := by
  have hk := Lib.hid hk0
  clear hk0
  by_cases hn : 4096 < n
  · have hb := Lib.hid (decide_eq_true hn)
    go_enter Tryd.func4, Tryd.ntmps4
    go_wp2_with fail
    refine (big _ _ _ _).mono ?_
    rintro e w' ⟨rfl, rfl⟩
    rw [hb.out]
    go_wp2_with fail
    go_ret
    exact ⟨rfl, Below.refl _ _⟩
  · have hb := Lib.hid (decide_eq_false hn)
    go_enter Tryd.func4, Tryd.ntmps4
    go_wp2_with fail
    refine (big _ _ _ _).mono ?_
    rintro e w' ⟨rfl, rfl⟩
    rw [hb.out]
    go_wp2_with fail
    refine (DrawDealText A n c _ h (by omega)).mono ?_
    rintro e w1 ⟨D, nd, cd, zss, rfl, hnd, hdc, rd1, h15, b1⟩
    have bx2 := box_at w1 (.slice D nd cd) 35
    have ca := Chg.of_alloc w1 (.cells #[.slice D nd cd] 35) 0 0
    have rd2 := rd1.still ca
    have b2 := Chg.above b1 ca b1.size (.inr rfl)
    have hlen : ∀ j, j < nd → (zss.getD j []).length ≤ 1048576 := fun j _ => by have := h15 j; omega
    clear rd1 b1 ca h15
    go_wp2_with fail
    generalize w1.alloc (.cells #[.slice D nd cd] 35) = w2 at bx2 rd2 b2
    refine (dealTextI D nd cd zss _ _ _ rd2).mono ?_
    rintro e w3 ⟨rfl, c3⟩
    have bx3 := box_still bx2 c3
    have rd3 := rd2.still c3
    have b3 := Chg.above b2 c3 b2.size (.inr rfl)
    clear bx2 rd2 b2 c3
    cases hd : dealB zss with
    | false =>
      rw [dealText_no hd]
      have HD := Lib.hid hd
      clear hd
      go_wp2_with fail
      refine (spec_IsDeal D nd cd zss _ _ _ rd3 hlen).mono ?_
      rw [HD.out]
      rintro e w4 ⟨rfl, c4⟩
      have b4 := Chg.above b3 c4 b3.size (.inr rfl)
      clear b3 c4 rd3 bx3
      have hB2 : Bytes w4 A n := h.chg (Chg.of_below b4 _ 0)
      go_wp2_with fail
      refine (other A n c 3 _ hB2 hA (by omega) (by omega) (by omega)).mono ?_
      rintro e v5 ⟨A5, c5, rfl, _, hB5, p5⟩
      have p5' := b4.trans (p5.mono b4.size)
      clear p5 b4
      go_wp2_with fail
      refine (DrawReadDeal A5 (3 + n) c5 _ hB5 (by omega)).mono ?_
      rintro e v6 ⟨t, rfl, ht, p6⟩
      have p6' := p5'.trans (p6.mono p5'.size)
      clear p6 p5' hB5 hB2
      go_wp2_with fail
      refine (impl_ReadDeal _ _ (by omega) (hk.out.below p6')).mono ?_
      rintro e v7 ⟨X, xc, rfl, hxc, ox, k7⟩
      have p7 := Chg.above p6' k7 p6'.size (.inr rfl)
      clear k7 p6'
      have hxl := rdd_rows t.data.toList
      cases hok : rdDB t.data.toList with
      | true =>
        have hx : Hid ((⟨(dealText (rdDV t.data.toList)).toArray⟩ : ByteArray) = t) := (bytes_ext (textd_read hok).symm).symm
        clear hok
        generalize rdDV t.data.toList = v at hx hxc ox hxl
        have bx := box_at v7 (.slice X v.length xc) 35
        have ca := Chg.of_alloc v7 (.cells #[.slice X v.length xc] 35) 0 0
        have ox8 := ox.still ca
        have p8 := Chg.above p7 ca p7.size (.inr rfl)
        clear ox p7 ca
        go_wp2_with fail
        generalize v7.alloc (.cells #[.slice X v.length xc] 35) = v8 at bx ox8 p8
        refine (dealTextI X v.length xc v _ _ _ ox8.rd).mono ?_
        rintro e v9 ⟨rfl, k9⟩
        rw [hx.out]
        have p9 := Chg.above p8 k9 p8.size (.inr rfl)
        go_wp2_with fail
        go_ret
        exact ⟨rfl, p9⟩
      | false =>
        rw [rdd_no hok]
        have bx := box_at v7 (.slice X 0 xc) 35
        have ca := Chg.of_alloc v7 (.cells #[.slice X 0 xc] 35) 0 0
        have p8 := Chg.above p7 ca p7.size (.inr rfl)
        clear ox p7 ca hok hxl hxc
        go_wp2_with fail
        go_ret
        exact ⟨rfl, p8⟩
    | true =>
      have HD := Lib.hid hd
      have h4 : Hid (nd = 4) := by show _ = _; rw [← rd3.1]; exact ((deal_iff zss).1 hd).1
      have hz4 : Hid (zss.length = 4) := ((deal_iff zss).1 hd).1
      clear hd
      go_wp2_with fail
      refine (spec_IsDeal D nd cd zss _ _ _ rd3 hlen).mono ?_
      rw [HD.out]
      rintro e w4 ⟨rfl, c4⟩
      have bx4 := box_still bx3 c4
      have rd4 := rd3.still c4
      have b4 := Chg.above b3 c4 b3.size (.inr rfl)
      clear b3 c4 rd3 bx3
      go_wp2_with fail
      refine (read_back HD.out _ (hk.out.below b4)).mono ?_
      rintro e w5 ⟨R, cr, rfl, _, or, c5⟩
      have bx5 := box_still bx4 c5
      have rd5 := rd4.still c5
      have b5 := Chg.above b4 c5 b4.size (.inr rfl)
      have by6 := box_at w5 (.slice R zss.length cr) 35
      have ca := Chg.of_alloc w5 (.cells #[.slice R zss.length cr] 35) 0 0
      have bx6 := box_still bx5 ca
      have rd6 := rd5.still ca
      have or6 := or.still ca
      have b6 := Chg.above b5 ca b5.size (.inr rfl)
      clear bx4 rd4 b4 c5 bx5 rd5 or b5 ca
      go_wp2_with fail
      generalize w5.alloc (.cells #[.slice R zss.length cr] 35) = w6 at by6 bx6 rd6 or6 b6
      refine (likeDeals R D zss.length nd cr cd zss _ _ _ _ _ or6.rd rd6 (by rw [hz4.out]; omega) (fun j hj => hlen j (by rw [h4.out]; rw [hz4.out] at hj; exact hj))).mono ?_
      rintro e w7 ⟨rfl, c7⟩
      have b7 := Chg.above b6 c7 b6.size (.inr rfl)
      clear by6 bx6 rd6 or6 b6 c7
      have hB2 : Bytes w7 A n := h.chg (Chg.of_below b7 _ 0)
      go_wp2_with fail
      refine (other A n c 3 _ hB2 hA (by omega) (by omega) (by omega)).mono ?_
      rintro e v5 ⟨A5, c5, rfl, _, hB5, p5⟩
      have p5' := b7.trans (p5.mono b7.size)
      clear p5 b7
      go_wp2_with fail
      refine (DrawReadDeal A5 (3 + n) c5 _ hB5 (by omega)).mono ?_
      rintro e v6 ⟨t, rfl, ht, p6⟩
      have p6' := p5'.trans (p6.mono p5'.size)
      clear p6 p5' hB5 hB2
      go_wp2_with fail
      refine (impl_ReadDeal _ _ (by omega) (hk.out.below p6')).mono ?_
      rintro e v7 ⟨X, xc, rfl, hxc, ox, k7⟩
      have p7 := Chg.above p6' k7 p6'.size (.inr rfl)
      clear k7 p6'
      have hxl := rdd_rows t.data.toList
      cases hok : rdDB t.data.toList with
      | true =>
        have hx : Hid ((⟨(dealText (rdDV t.data.toList)).toArray⟩ : ByteArray) = t) := (bytes_ext (textd_read hok).symm).symm
        clear hok
        generalize rdDV t.data.toList = v at hx hxc ox hxl
        have bx := box_at v7 (.slice X v.length xc) 35
        have ca := Chg.of_alloc v7 (.cells #[.slice X v.length xc] 35) 0 0
        have ox8 := ox.still ca
        have p8 := Chg.above p7 ca p7.size (.inr rfl)
        clear ox p7 ca
        go_wp2_with fail
        generalize v7.alloc (.cells #[.slice X v.length xc] 35) = v8 at bx ox8 p8
        refine (dealTextI X v.length xc v _ _ _ ox8.rd).mono ?_
        rintro e v9 ⟨rfl, k9⟩
        rw [hx.out]
        have p9 := Chg.above p8 k9 p8.size (.inr rfl)
        go_wp2_with fail
        go_ret
        exact ⟨rfl, p9⟩
      | false =>
        rw [rdd_no hok]
        have bx := box_at v7 (.slice X 0 xc) 35
        have ca := Chg.of_alloc v7 (.cells #[.slice X 0 xc] 35) 0 0
        have p8 := Chg.above p7 ca p7.size (.inr rfl)
        clear ox p7 ca hok hxl hxc
        go_wp2_with fail
        go_ret
        exact ⟨rfl, p8⟩
end Go.Proofs.YteojdlacdnfgiaaDoor.Lib1
