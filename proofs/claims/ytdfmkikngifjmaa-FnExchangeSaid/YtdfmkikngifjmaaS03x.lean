/- Chapter 3: the model's ExchangeCards. -/
import Derived.Test.YtdfmkikngifjmaaBoxI
import Derived.Test.YtdfmkikngifjmaaNestPut
import Derived.Deep.RegionHeld3
import Derived.Test.YtdfmkikngifjmaaBase2
namespace Go.Proofs.Ytdfmkikngifjmaa.Lib1
open Go.RowKit
set_option maxRecDepth 100000

set_option maxHeartbeats 20000000 in
theorem spec_ExchangeCards (A : Option Addr) (n c : Nat) (a b : Int) (zss : List (List Int)) (lo hi : Nat) (w : World) (h : RdR w lo hi A n zss) (hn : n ≤ 1048576) (hl : ∀ j, j < n → (zss.getD j []).length ≤ 1048576) :
    Calls Try.prog 50 #[.agg #[.slice A n c], .int .i64 a, .int .i64 b] w (RetDI w (exV zss a b) (exE zss a b)) := by
  have c2 := Lib.hid ((Chg.of_alloc w (.cells #[.slice A n c] 25) 0 0).trans (Chg.of_alloc _ (.cells #[.slice none 0 0] 25) 0 0))
  have B0 := Lib.hid ((BoxAt.new w (.slice A n c) 25 rfl).alloc (.cells #[.slice none 0 0] 25))
  have B1 := Lib.hid (BoxAt.new (w.alloc (.cells #[.slice A n c] 25)) (.slice none 0 0) 25 (g := w.heap.size + 1) (by simp))
  have q0 := B0.out.c
  go_enter Try.func50, Try.ntmps50
  go_wp2_with fail
  generalize ((w.alloc (.cells #[.slice A n c] 25)).alloc (.cells #[.slice none 0 0] 25)) = W0 at c2 B0 B1 q0
  refine (l03Deal A n c zss lo hi _ (h.still c2.out) hl).mono ?_
  rintro e w1 ⟨rfl, c1⟩
  have k1 := Lib.hid (c2.out.trans c1)
  have D0 := Lib.hid (B0.out.still c1)
  have D1 := Lib.hid (B1.out.still c1)
  have z1 := Lib.hid D1.out.lt
  clear c1 c2 B0 B1 q0
  cases hd : dealB zss with
  | false =>
    have he : Hid (exE zss a b = 1) := by show _ = _; simp [exE, hd]
    have hv : Hid (exV zss a b = []) := by show _ = _; simp [exV, hd]
    clear hd
    have p1 := D1.out.c
    have f1 := D1.out.f
    have hret := fun u => D1.out.ret u
    have hcf := Lib.hid (k1.out.cell (g := w.heap.size + 1) (i := 0) (v := .slice none 0 0) (by omega))
    go_wp2_with fail
    (try simp only [Exit.inBlock, Exit.then])
    refine bodyPost_ret (v := .tuple #[.agg #[.slice none 0 0], .int .i64 1]) (by simp [results, Try.results50, go_sem, hret]; try rfl) rfl ?_
    rw [hv.out, he.out]
    exact ⟨none, 0, rfl, Nat.le_refl _, OwnR.none_, hcf.out⟩
  | true =>
    have HD := Lib.hid hd
    have hz4 : n = 4 := by rw [← h.1]; exact ((deal_iff zss).1 hd).1
    subst hz4
    have HE : Hid (exFound zss a b = false → exE zss a b = 4 ∧ exV zss a b = []) := fun hf => by simp [exE, exV, hd, hf]
    have HT : Hid (exFound zss a b = true → exE zss a b = 0 ∧ exV zss a b = exRows zss a b) := fun hf => by simp [exE, exV, hd, hf]
    have hra := Lib.hid (holdTo_range zss a zss.length)
    have hrb := Lib.hid (holdTo_range zss b zss.length)
    have ka := Lib.hid (fun W (hW : RdR W lo hi A 4 zss) => l03Holder A 4 c a zss lo hi W hW hn hl)
    have kb := Lib.hid (fun W (hW : RdR W lo hi A 4 zss) => l03Holder A 4 c b zss lo hi W hW hn hl)
    have p0 := D0.out.c
    have dr := Lib.hid (Chg.drewN w1 1 0 0)
    clear hd
    have Hva : Hid (∃ va, holderF zss a = va) := ⟨_, rfl⟩
    have Hvb : Hid (∃ vb, holderF zss b = vb) := ⟨_, rfl⟩
    obtain ⟨va, hva⟩ := Hva.out
    obtain ⟨vb, hvb⟩ := Hvb.out
    have HVA := Lib.hid hva
    have HVB := Lib.hid hvb
    rw [hva] at ka
    rw [hvb] at kb
    clear hva hvb Hva Hvb
    go_wp2_with fail
    go_region_held3 (fun W => W.cell? ⟨w.heap.size, 0, none⟩ = some (.slice A 4 c)) (first | exact p0 | exact p02 | exact p03) (first | (go_at_call 94; have kw2 := kb.out w2 ((h.still k1.out).still c12.out); refine kw2.mono ?_; rintro e w3 ⟨rfl, c3⟩; have p03 := ((D0.out.still c12.out).still c3).c) | (go_at_call 94; refine (ka.out _ ((h.still k1.out).still dr.out)).mono ?_; rintro e w2 ⟨rfl, c2⟩; have c12 := Lib.hid (dr.out.trans c2); have p02 := (D0.out.still c12.out).c))
    all_goals
      have k3 := Lib.hid ((k1.out.trans c12.out).trans c3)
      have E0 := Lib.hid ((D0.out.still c12.out).still c3)
      have E1 := Lib.hid ((D1.out.still c12.out).still c3)
      have z3 := Lib.hid (Nat.le_trans z1.out (Nat.le_trans c12.out.size c3.size))
      clear c2 c3 c12 p02 p03 k1 D0 D1 dr p0 kw2
      have hzl := Lib.hid h.1
      by_cases hva0 : va < 0
      · obtain ⟨he0, hv0⟩ := HE.out (by have := HVA.out; simp [exFound]; omega)
        have he := Lib.hid he0
        have hv := Lib.hid hv0
        clear he0 hv0
        have p1 := E1.out.c
        have f1 := E1.out.f
        have hret := fun u => E1.out.ret u
        have hcf := Lib.hid (k3.out.cell (g := w.heap.size + 1) (i := 0) (v := .slice none 0 0) (by omega))
        go_wp2_with fail
        (try simp only [Exit.inBlock, Exit.then])
        refine bodyPost_ret (v := .tuple #[.agg #[.slice none 0 0], .int .i64 4]) (by simp [results, Try.results50, go_sem, hret]; try rfl) rfl ?_
        rw [hv.out, he.out]
        exact ⟨none, 0, rfl, Nat.le_refl _, OwnR.none_, hcf.out⟩
      · by_cases hvb0 : vb < 0
        · obtain ⟨he0, hv0⟩ := HE.out (by have := HVB.out; simp [exFound]; omega)
          have he := Lib.hid he0
          have hv := Lib.hid hv0
          clear he0 hv0
          have p1 := E1.out.c
          have f1 := E1.out.f
          have hret := fun u => E1.out.ret u
          have hcf := Lib.hid (k3.out.cell (g := w.heap.size + 1) (i := 0) (v := .slice none 0 0) (by omega))
          go_wp2_with fail
          (try simp only [Exit.inBlock, Exit.then])
          refine bodyPost_ret (v := .tuple #[.agg #[.slice none 0 0], .int .i64 4]) (by simp [results, Try.results50, go_sem, hret]; try rfl) rfl ?_
          rw [hv.out, he.out]
          exact ⟨none, 0, rfl, Nat.le_refl _, OwnR.none_, hcf.out⟩
        · have hxy : Hid ((∃ x : Nat, va = x ∧ x < 4) ∧ ∃ y : Nat, vb = y ∧ y < 4) := by
            have h1 := hra.out; have h2 := hrb.out; have h3 := HVA.out; have h4 := HVB.out; have h5 := hzl.out
            unfold holderF at h3 h4
            exact ⟨⟨va.toNat, by omega, by omega⟩, ⟨vb.toNat, by omega, by omega⟩⟩
          obtain ⟨⟨x, rfl, hx4⟩, ⟨y, rfl, hy4⟩⟩ := hxy.out
          obtain ⟨he0, hv0⟩ := HT.out (by have := HVA.out; have := HVB.out; simp [exFound]; omega)
          have he := Lib.hid he0
          have hv := Lib.hid hv0
          clear he0 hv0
          have hx0 : ¬ (x : Int) < 0 := by omega
          have hy0 : ¬ (y : Int) < 0 := by omega
          have hxl : (x : Int) < 4 := by omega
          have hyl : (y : Int) < 4 := by omega
          clear HE HT hra hrb hxy hva0 hvb0 ka kb
          have p0 := E0.out.c
          go_wp2_with fail
          refine (l03Own A 4 c zss lo hi _ (h.still k3.out) hn hl).mono ?_
          rintro e w4 ⟨A4, c4, rfl, hc4, o4, ch4⟩
          rw [hzl.out] at hc4 o4 ⊢
          obtain ⟨g, rfl, g1, g2⟩ := o4.addr (by omega)
          have ca4 := Lib.hid (Chg.of_alloc w4 (.cells #[.slice (some ⟨g, 0, none⟩) 4 c4] 25) 0 0)
          have Q := Lib.hid (BoxAt.new w4 (.slice (some ⟨g, 0, none⟩) 4 c4) 25 rfl)
          have k5 := Lib.hid ((k3.out.trans ch4).trans ca4.out)
          have F0 := Lib.hid ((E0.out.still ch4).still ca4.out)
          have F1 := Lib.hid ((E1.out.still ch4).still ca4.out)
          have o5 := Lib.hid (o4.still ca4.out)
          have hq : Hid (g < w4.heap.size) := g2
          have hgl : Hid (w.heap.size + 2 ≤ g) := by show _ ≤ _; have := z3.out; omega
          have hz5 : Hid ((w4.alloc (.cells #[.slice (some ⟨g, 0, none⟩) 4 c4] 25)).heap.size = w4.heap.size + 1) := by show _ = _; simp
          have hlow := Lib.hid (show w.heap.size + 2 ≤ w3.heap.size by have := z3.out; omega)
          clear ch4 o4 g1 g2 p0 E0 E1
          by_cases exy : x = y
          · subst exy
            have hr : Hid (exRows zss a b = zss) := by show _ = _; unfold exRows; rw [HVA.out, HVB.out, if_pos rfl]
            have p5 := Q.out.c
            have p1 := F1.out.c
            have f1 := F1.out.f
            have hret := fun u => F1.out.ret u
            have hcf := Lib.hid (k5.out.cell (g := w.heap.size + 1) (i := 0) (v := .slice (some ⟨g, 0, none⟩) 4 c4) (by omega))
            have hst : Hid (Chg (w4.alloc (.cells #[.slice (some ⟨g, 0, none⟩) 4 c4] 25)) ((w4.alloc (.cells #[.slice (some ⟨g, 0, none⟩) 4 c4] 25)).setCell ⟨w.heap.size + 1, 0, none⟩ (.slice (some ⟨g, 0, none⟩) 4 c4)) (w.heap.size + 1) (w.heap.size + 2)) := (Chg.refl _ _ _).store (Nat.le_refl _) (by show w.heap.size + 1 < w.heap.size + 2; omega) _
            go_wp2_with fail
            (try simp only [Exit.inBlock, Exit.then])
            refine bodyPost_ret (v := .tuple #[.agg #[.slice (some ⟨g, 0, none⟩) 4 c4], .int .i64 0]) (by simp [results, Try.results50, go_sem, hret]; try rfl) rfl ?_
            have := hlow.out; have := hz5.out; have := hst.out.size
            refine ⟨_, c4, by rw [hv.out, he.out, hr.out, hzl.out], by rw [hv.out, hr.out, hzl.out]; exact hc4, ?_, hcf.out⟩
            rw [hv.out, hr.out, hzl.out]
            exact (o5.out.chg hst.out (.inr (by omega))).more (by omega) (by omega)
          · have hne : ((x : Int) == (y : Int)) = false := by simp; omega
            have hr : Hid (exRows zss a b = (zss.set x (ins b (dropF a (zss.getD x [])))).set y (ins a (dropF b (zss.getD y [])))) := by
              show _ = _
              unfold exRows
              rw [HVA.out, HVB.out, if_neg (by omega)]
              simp
            obtain ⟨b0, off, Bx, Cx, rfl, _, _, hcx, hrx, _, _⟩ := h.at_ hx4
            obtain ⟨b1, off1, By, Cy, e1, _, _, hcy, hry, _, _⟩ := h.at_ hy4
            injection e1 with e1
            injection e1 with e2 e3 _
            subst e2; subst e3
            have hxr := hl x hx4
            have hyr := hl y hy4
            have h13 := Lib.hid (((deal_iff zss).1 HD.out).2.1)
            have hlx := hand_len (h13.out x hx4).1
            have hly := hand_len (h13.out y hy4).1
            have hdx : (dropF a (zss.getD x [])).length ≤ 1048570 := by have := dropF_le a (zss.getD x []); omega
            have hdy : (dropF b (zss.getD y [])).length ≤ 1048570 := by have := dropF_le b (zss.getD y []); omega
            have HX := Lib.hid hrx
            have HY := Lib.hid hry
            have CX := Lib.hid hcx
            have CY := Lib.hid hcy
            clear hrx hry hcx hcy
            generalize hRx : zss.getD x [] = rx at HX CX hr hdx hxr hlx
            generalize hRy : zss.getD y [] = ry at HY CY hr hdy hyr hly
            clear hRx hRy hl h13
            go_wp2_with fail
            generalize w4.alloc (.cells #[.slice (some ⟨g, 0, none⟩) 4 c4] 25) = w5 at ca4 Q k5 F0 F1 o5 hz5
            have po := Q.out.c
            have pd := F0.out.c
            have px := box_still CX.out k5.out
            have d5 := Lib.hid (Chg.drewN w5 1 0 0)
            go_region_held3 (fun W => W.cell? ⟨w4.heap.size, 0, none⟩ = some (.slice (some ⟨g, 0, none⟩) 4 c4) ∧ W.cell? ⟨w.heap.size, 0, none⟩ = some (.slice (some ⟨b0, off, none⟩) 4 c) ∧ W.cell? ⟨b0, off + x, none⟩ = some (.slice Bx rx.length Cx)) (first | exact ⟨po, pd, px⟩ | exact ⟨po6, pd6, px6⟩ | exact ⟨po7, pd7, px7⟩ | exact ⟨po8 _, pd8 _, px8 _⟩) (first | (go_at_call 96; refine (l01Drop Bx _ Cx a rx lo hi _ ((HX.out.still k5.out).still d5.out) hxr).mono ?_; rintro e w6 ⟨D6, c6, rfl, _, _, d3, ch6⟩; have c56 := Lib.hid (d5.out.trans ch6); have po6 := box_still po c56.out; have pd6 := box_still pd c56.out; have px6 := box_still px c56.out) | (go_at_call 95; refine (l01Put D6 _ c6 b (dropF a rx) _ _ w6 d3.rd hdx).mono ?_; rintro e w7 ⟨D7, c7, rfl, e1, e2, e3, ch7⟩; have c57 := Lib.hid (c56.out.trans ch7); have po7 := box_still po c57.out; have pd7 := box_still pd c57.out; have px7 := box_still px c57.out; have hP := Lib.hid (o5.out.put hx4 c57.out (by have := hz5.out; omega) (e3.more c56.out.size (Nat.le_refl _)) e1 e2); have hu7 := hP.out.1; have hf7 := hP.out.2.1; obtain ⟨u7, hu7⟩ := hu7; have po8 := fun u => ((Q.out.still c57.out).set (g := g) (i := x) (u := u) (by have := hq.out; omega)).c; have pd8 := fun u => ((F0.out.still c57.out).set (g := g) (i := x) (u := u) (by have := hgl.out; omega)).c; have px8 := fun u => (World.cell?_of_block (Below.heap_setCell w7 ⟨g, x, none⟩ u b0 (by have := hgl.out; have hh : b0 < w.heap.size := lt_of_cell CX.out; show b0 ≠ g; omega))).trans px7))
            all_goals
              have o8 := Lib.hid hP.out.2.2.2.2
              have z7 := Lib.hid c57.out.size
              have K7 := Lib.hid (k5.out.trans c57.out)
              have G0 := Lib.hid ((F0.out.still c57.out).set (g := g) (i := x) (u := .slice D7 (ins b (dropF a rx)).length c7) (by have := hgl.out; omega))
              have G1 := Lib.hid ((F1.out.still c57.out).set (g := g) (i := x) (u := .slice D7 (ins b (dropF a rx)).length c7) (by have := hgl.out; omega))
              have GQ := Lib.hid ((Q.out.still c57.out).set (g := g) (i := x) (u := .slice D7 (ins b (dropF a rx)).length c7) (by have := hq.out; omega))
              have B8 := Lib.hid (Below.setAt (i := x) (u := .slice D7 (ins b (dropF a rx)).length c7) K7.out.to_below (g := g) (by have := hgl.out; omega))
              have hz8 : Hid ((w7.setCell ⟨g, x, none⟩ (.slice D7 (ins b (dropF a rx)).length c7)).heap.size = w7.heap.size) := by show _ = _; simp [World.setCell]
              clear hu7 hf7 po8 pd8 px8 po7 pd7 px7 po6 pd6 px6 po pd px e3 d3 ch6 ch7 c56 c57 hP Q F0 F1 o5
              go_wp2_with fail
              generalize w7.setCell ⟨g, x, none⟩ (.slice D7 (ins b (dropF a rx)).length c7) = w8 at o8 G0 G1 GQ B8 hz8
              generalize ins b (dropF a rx) = nx at o8 hr
              have po := GQ.out.c
              have pd := G0.out.c
              have k8 := Lib.hid (Chg.of_below B8.out 0 0)
              have py := box_still CY.out k8.out
              have d8 := Lib.hid (Chg.drewN w8 1 0 0)
              go_region_held3 (fun W => W.cell? ⟨w4.heap.size, 0, none⟩ = some (.slice (some ⟨g, 0, none⟩) 4 c4) ∧ W.cell? ⟨w.heap.size, 0, none⟩ = some (.slice (some ⟨b0, off, none⟩) 4 c) ∧ W.cell? ⟨b0, off + y, none⟩ = some (.slice By ry.length Cy)) (first | exact ⟨po, pd, py⟩ | exact ⟨po9, pd9, py9⟩ | exact ⟨po10, pd10, py10⟩ | exact ⟨po11 _, pd11 _, py11 _⟩) (first | (go_at_call 96; refine (l01Drop By _ Cy b ry lo hi _ ((HY.out.still k8.out).still d8.out) hyr).mono ?_; rintro e w9 ⟨D9, c9, rfl, _, _, d3, ch9⟩; have c89 := Lib.hid (d8.out.trans ch9); have po9 := box_still po c89.out; have pd9 := box_still pd c89.out; have py9 := box_still py c89.out) | (go_at_call 95; refine (l01Put D9 _ c9 a (dropF b ry) _ _ w9 d3.rd hdy).mono ?_; rintro e w10 ⟨D10, c10, rfl, e1, e2, e3, ch10⟩; have c810 := Lib.hid (c89.out.trans ch10); have po10 := box_still po c810.out; have pd10 := box_still pd c810.out; have py10 := box_still py c810.out; have hP := Lib.hid (o8.out.put hy4 c810.out (by have := hz8.out; omega) (e3.more c89.out.size (Nat.le_refl _)) e1 e2); have hu10 := hP.out.1; have hf10 := hP.out.2.1; obtain ⟨u10, hu10⟩ := hu10; have po11 := fun u => ((GQ.out.still c810.out).set (g := g) (i := y) (u := u) (by have := hq.out; omega)).c; have pd11 := fun u => ((G0.out.still c810.out).set (g := g) (i := y) (u := u) (by have := hgl.out; omega)).c; have py11 := fun u => (World.cell?_of_block (Below.heap_setCell w10 ⟨g, y, none⟩ u b0 (by have := hgl.out; have hh : b0 < w.heap.size := lt_of_cell CY.out; show b0 ≠ g; omega))).trans py10))
              all_goals
                have o11 := Lib.hid hP.out.2.2.2.2
                have K10 := Lib.hid (B8.out.trans (c810.out.to_below.mono B8.out.size))
                have H1 := Lib.hid ((G1.out.still c810.out).set (g := g) (i := y) (u := .slice D10 (ins a (dropF b ry)).length c10) (by have := hgl.out; omega))
                have HQ := Lib.hid ((GQ.out.still c810.out).set (g := g) (i := y) (u := .slice D10 (ins a (dropF b ry)).length c10) (by have := hq.out; omega))
                have B11 := Lib.hid (Below.setAt (i := y) (u := .slice D10 (ins a (dropF b ry)).length c10) K10.out (g := g) (by have := hgl.out; omega))
                have hz11 : Hid ((w10.setCell ⟨g, y, none⟩ (.slice D10 (ins a (dropF b ry)).length c10)).heap.size = w10.heap.size) := by show _ = _; simp [World.setCell]
                clear hu10 hf10 po11 pd11 py11 po10 pd10 py10 po9 pd9 py9 po pd py e3 d3 ch9 ch10 c89 c810 hP G0 G1 GQ o8
                have p5 := HQ.out.c
                have p1 := H1.out.c
                have f1 := H1.out.f
                have hret := fun u => H1.out.ret u
                have hcf := Lib.hid ((Chg.of_below B11.out 0 0).cell (g := w.heap.size + 1) (i := 0) (v := .slice (some ⟨g, 0, none⟩) 4 c4) (by omega))
                have hst : Hid (Chg (w10.setCell ⟨g, y, none⟩ (.slice D10 (ins a (dropF b ry)).length c10)) ((w10.setCell ⟨g, y, none⟩ (.slice D10 (ins a (dropF b ry)).length c10)).setCell ⟨w.heap.size + 1, 0, none⟩ (.slice (some ⟨g, 0, none⟩) 4 c4)) (w.heap.size + 1) (w.heap.size + 2)) := (Chg.refl _ _ _).store (Nat.le_refl _) (by show w.heap.size + 1 < w.heap.size + 2; omega) _
                (try go_wp2_with fail)
                (try simp only [Exit.inBlock, Exit.then])
                refine bodyPost_ret (v := .tuple #[.agg #[.slice (some ⟨g, 0, none⟩) 4 c4], .int .i64 0]) (by simp [results, Try.results50, go_sem, hret]; try rfl) rfl ?_
                have hl4 : ((zss.set x nx).set y (ins a (dropF b ry))).length = 4 := by simp [hzl.out]
                have := hlow.out; have := hz11.out; have := hst.out.size
                refine ⟨_, c4, by rw [hv.out, he.out, hr.out, hl4], by rw [hv.out, hr.out, hl4]; exact hc4, ?_, hcf.out⟩
                rw [hv.out, hr.out, hl4]
                exact (o11.out.chg hst.out (.inr (by omega))).more (by omega) (by omega)

end Go.Proofs.Ytdfmkikngifjmaa.Lib1
