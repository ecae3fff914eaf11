/- Chapter 3: the program's ExchangeCards. -/
import Derived.Test.YtdfmkikngifjmaaReplI
import Derived.Test.YtdfmkikngifjmaaS03r
import Derived.Deep.RegionLaw
namespace Go.Proofs.Ytdfmkikngifjmaa.Lib1
open Go.RowKit
set_option maxRecDepth 100000

/-! ### Boxes -/
def BoxAt (w : World) (g : Nat) (v : Value) (t : TypeId) : Prop := w.heap[g]? = some (.cells #[v] t (0, 0))
section
variable {w w' : World} {g : Nat} {v : Value} {t : TypeId}
theorem BoxAt.new (w : World) (v : Value) (t : TypeId) {g : Nat} (hg : w.heap.size = g) : BoxAt (w.alloc (.cells #[v] t)) g v t := by subst hg; exact heap_alloc_new w _
theorem BoxAt.lt (h : BoxAt w g v t) : g < w.heap.size := lt_of_block h
theorem BoxAt.alloc (h : BoxAt w g v t) (o : Obj) : BoxAt (w.alloc o) g v t := (Below.heap_alloc _ _ _ h.lt).trans h
theorem BoxAt.still (h : BoxAt w g v t) (c : Chg w w' 0 0) : BoxAt w' g v t := (c.block _ h.lt (.inr (Nat.zero_le _))).trans h
theorem BoxAt.c (h : BoxAt w g v t) : w.cell? ⟨g, 0, none⟩ = some v := by rw [cell_of_row _ _ _ _ _ _ h]; rfl
theorem BoxAt.f (h : BoxAt w g v t) : w.frozen? ⟨g, 0, none⟩ = false := by simp [World.frozen?, show w.heap[g]? = _ from h]
theorem BoxAt.ret (h : BoxAt w g v t) (u : Value) : (w.setCell ⟨g, 0, none⟩ u).cell? ⟨g, 0, none⟩ = some u := by
  rw [cell_of_row _ _ _ #[u] t (0, 0) (by simp [World.setCell, Array.getElem?_modify, show w.heap[g]? = _ from h])]; rfl
theorem BoxAt.drew (h : BoxAt w g v t) : BoxAt w.drew g v t := h
end

theorem exchange_fn (pa pb : Nat) (a b : Int) (w : World) (ha : w.cell? ⟨pa, 0, none⟩ = some (.int .i64 a)) (hb : w.cell? ⟨pb, 0, none⟩ = some (.int .i64 b)) :
    CardFn 97 #[.pointer (some ⟨pa, 0, none⟩), .pointer (some ⟨pb, 0, none⟩)] (exch a b) w := by
  intro x _ _ W hbw
  have ka := cell_below ha hbw (lt_of_cell ha)
  have kb := cell_below hb hbw (lt_of_cell hb)
  clear ha hb
  show Calls Try.prog _ #[.int .i64 x, .pointer (some ⟨pa, 0, none⟩), .pointer (some ⟨pb, 0, none⟩)] W _
  by_cases h1 : x = a
  · subst h1
    rw [show exch x b x = b by simp [exch]]
    go_enter Try.func97, Try.ntmps97
    go_wp2
    go_ret
    exact ⟨rfl, Below.refl _ _⟩
  · have e1 : (x == a) = false := by simpa using h1
    by_cases h2 : x = b
    · subst h2
      rw [show exch a x x = a by simp [exch, h1]]
      go_enter Try.func97, Try.ntmps97
      go_wp2
      go_ret
      exact ⟨rfl, Below.refl _ _⟩
    · have e2 : (x == b) = false := by simpa using h2
      rw [show exch a b x = x by simp [exch, h1, h2]]
      go_enter Try.func97, Try.ntmps97
      go_wp2
      go_ret
      exact ⟨rfl, Below.refl _ _⟩

set_option maxHeartbeats 2000000 in
theorem exchangeCards (A : Option Addr) (n c : Nat) (a b : Int) (zss : List (List Int)) (lo hi : Nat) (w : World) (h : RdR w lo hi A n zss) :
    Calls Try.prog 51 #[.agg #[.slice A n c], .int .i64 a, .int .i64 b] w (RetDI w (exV zss a b) (exE zss a b)) := by
  have c4 := Lib.hid ((((Chg.of_alloc w (.cells #[.slice A n c] 25) 0 0).trans (Chg.of_alloc _ (.cells #[.int .i64 a] 2) 0 0)).trans (Chg.of_alloc _ (.cells #[.int .i64 b] 2) 0 0)).trans (Chg.of_alloc _ (.cells #[.slice none 0 0] 25) 0 0))
  have B0 := Lib.hid ((((BoxAt.new w (.slice A n c) 25 rfl).alloc (.cells #[.int .i64 a] 2)).alloc (.cells #[.int .i64 b] 2)).alloc (.cells #[.slice none 0 0] 25))
  have B1 := Lib.hid (((BoxAt.new (w.alloc (.cells #[.slice A n c] 25)) (.int .i64 a) 2 (g := w.heap.size + 1) (by simp)).alloc (.cells #[.int .i64 b] 2)).alloc (.cells #[.slice none 0 0] 25))
  have B2 := Lib.hid ((BoxAt.new ((w.alloc (.cells #[.slice A n c] 25)).alloc (.cells #[.int .i64 a] 2)) (.int .i64 b) 2 (g := w.heap.size + 1 + 1) (by simp)).alloc (.cells #[.slice none 0 0] 25))
  have B3 := Lib.hid (BoxAt.new (((w.alloc (.cells #[.slice A n c] 25)).alloc (.cells #[.int .i64 a] 2)).alloc (.cells #[.int .i64 b] 2)) (.slice none 0 0) 25 (g := w.heap.size + 1 + 1 + 1) (by simp))
  have q0 := B0.out.c
  have hs0 : Hid ((exV zss a b).length = 4 ∨ exV zss a b = []) := by
    show _ ∨ _
    unfold exV
    cases hd : dealB zss
    · right; rfl
    · cases hf : exFound zss a b
      · right; rfl
      · left; simp only [Bool.and_self, if_true]; rw [ex_mapD hd hf, mapD_length]; exact ((deal_iff zss).1 hd).1
  go_enter Try.func51, Try.ntmps51
  go_wp2_with fail
  generalize ((((w.alloc (.cells #[.slice A n c] 25)).alloc (.cells #[.int .i64 a] 2)).alloc (.cells #[.int .i64 b] 2)).alloc (.cells #[.slice none 0 0] 25)) = W0 at c4 B0 B1 B2 B3 q0
  refine (isDeal A n c zss lo hi _ (h.still c4.out)).mono ?_
  rintro e w1 ⟨rfl, c1⟩
  have k1 := Lib.hid (c4.out.trans c1)
  have D0 := B0.out.still c1
  have D1 := B1.out.still c1
  have D2 := B2.out.still c1
  have D3 := B3.out.still c1
  clear c1 c4 B0 B1 B2 B3 q0
  cases hd : dealB zss with
  | false =>
    have he : Hid (exE zss a b = 1) := by show _ = _; simp [exE, hd]
    have hv : Hid (exV zss a b = []) := by show _ = _; simp [exV, hd]
    clear hd
    have p3 := D3.c
    have f3 := D3.f
    have hret := fun u => D3.ret u
    have hcf := Lib.hid (k1.out.cell (g := w.heap.size + 1 + 1 + 1) (i := 0) (v := .slice none 0 0) (by omega))
    go_wp2_with fail
    (try simp only [Exit.inBlock, Exit.then])
    refine bodyPost_ret (v := .tuple #[.agg #[.slice none 0 0], .int .i64 1]) (by simp [results, Try.results51, go_sem, hret]; try rfl) rfl ?_
    rw [hv.out, he.out]
    exact ⟨none, 0, rfl, Nat.le_refl _, OwnR.none_, hcf.out⟩
  | true =>
    have HD := Lib.hid hd
    have hva : Hid (holderV zss a = holderF zss a) := by show _ = _; simp [holderV, hd]
    have hvb : Hid (holderV zss b = holderF zss b) := by show _ = _; simp [holderV, hd]
    have HE : Hid (exFound zss a b = false → exE zss a b = 4 ∧ exV zss a b = []) := fun hf => by simp [exE, exV, hd, hf]
    have p0 := D0.c
    have p1 := D1.c
    clear hd
    go_wp2_with fail
    refine (holderOf A n c a zss lo hi _ (h.still k1.out)).mono ?_
    rintro e w2 ⟨rfl, c2⟩
    rw [hva.out]
    have k2 := Lib.hid (k1.out.trans c2)
    replace D0 := D0.still c2
    replace D1 := D1.still c2
    replace D2 := D2.still c2
    replace D3 := D3.still c2
    clear k1 c2 p0 p1 hva
    by_cases ha : holderF zss a < 0
    · obtain ⟨he, hv⟩ := HE.out (by simp [exFound]; omega)
      have p3 := D3.c
      have f3 := D3.f
      have hret := fun u => D3.ret u
      have hcf := Lib.hid (k2.out.cell (g := w.heap.size + 1 + 1 + 1) (i := 0) (v := .slice none 0 0) (by omega))
      have he := Lib.hid he
      have hv := Lib.hid hv
      generalize holderF zss a = va at ha
      go_wp2_with fail
      (try simp only [Exit.inBlock, Exit.then])
      refine bodyPost_ret (v := .tuple #[.agg #[.slice none 0 0], .int .i64 4]) (by simp [results, Try.results51, go_sem, hret]; try rfl) rfl ?_
      rw [hv.out, he.out]
      exact ⟨none, 0, rfl, Nat.le_refl _, OwnR.none_, hcf.out⟩
    · have Ha := Lib.hid ha
      have p0 := D0.c
      have p2 := D2.c
      generalize hva : holderF zss a = va at ha
      have HVA := Lib.hid hva
      clear hva
      go_wp2_with fail
      refine (holderOf A n c b zss lo hi _ (h.still k2.out)).mono ?_
      rintro e w3 ⟨rfl, c3⟩
      rw [hvb.out]
      have k3 := Lib.hid (k2.out.trans c3)
      replace D0 := D0.still c3
      replace D1 := D1.still c3
      replace D2 := D2.still c3
      replace D3 := D3.still c3
      clear k2 c3 p0 p2 hvb
      by_cases hb : holderF zss b < 0
      · obtain ⟨he, hv⟩ := HE.out (by simp [exFound]; omega)
        have p3 := D3.c
        have f3 := D3.f
        have hret := fun u => D3.ret u
        have hcf := Lib.hid (k3.out.cell (g := w.heap.size + 1 + 1 + 1) (i := 0) (v := .slice none 0 0) (by omega))
        have he := Lib.hid he
        have hv := Lib.hid hv
        generalize holderF zss b = vb at hb
        go_wp2_with fail
        (try simp only [Exit.inBlock, Exit.then])
        refine bodyPost_ret (v := .tuple #[.agg #[.slice none 0 0], .int .i64 4]) (by simp [results, Try.results51, go_sem, hret]; try rfl) rfl ?_
        rw [hv.out, he.out]
        exact ⟨none, 0, rfl, Nat.le_refl _, OwnR.none_, hcf.out⟩
      · have hfd : exFound zss a b = true := by have := Ha.out; simp [exFound]; omega
        have hin : Hid ((0 ≤ a ∧ a ≤ 51) ∧ 0 ≤ b ∧ b ≤ 51) := by
          have := Ha.out
          exact ⟨deal_range HD.out a (holder_iff.1 (by omega)), deal_range HD.out b (holder_iff.1 (by omega))⟩
        have he : Hid (exE zss a b = 0) := by show _ = _; simp [exE, HD.out, hfd]
        have hv : Hid (exV zss a b = iterN (mapD (exch a b)) 1 zss) := by show _ = _; simp [exV, HD.out, hfd, ex_mapD HD.out hfd, iterN]
        have hl4 : Hid ((iterN (mapD (exch a b)) 1 zss).length = 4) := by show _ = _; rw [iterN, mapD_length]; exact ((deal_iff zss).1 HD.out).1
        generalize holderF zss b = vb at hb
        have hec := enters_of Try.func97 (by kernel_rfl) rfl
        have he2 := enters_of Try.func128 (by kernel_rfl) rfl
        clear HE hs0 Ha hfd
        have p0 := D0.c
        have Q0 := Lib.hid D0
        have Q1 := Lib.hid D1
        have Q2 := Lib.hid D2
        have Q3 := Lib.hid D3
        clear D0 D1 D2 D3
        have hinj := Lib.hid (exch_inj a b)
        have hont := Lib.hid (exch_onto hin.out.1 hin.out.2)
        have dr := Lib.hid (Chg.drewN w3 1 0 0)
        have z3 := Lib.hid Q3.out.lt
        go_wp2_with fail
        go_region_law (first | (go_simp; go_at_call 98; refine (replaceCards _ _ _).mono ?_; rintro e w4 ⟨rfl, r1, r2, cr⟩; have c34 := Lib.hid (dr.out.trans cr); have p04 := (Q0.out.still c34.out).c; have p04a := fun o => box_still p04 (Chg.of_alloc w4 o 0 0)) | (go_simp; go_at_call 90; refine (applyRepl hec A n c zss lo hi _ w4 ((h.still k3.out).still c34.out) HD.out hinj.out hont.out r1 r2 (exchange_fn _ _ a b w4 (Q1.out.still c34.out).c (Q2.out.still c34.out).c)).mono ?_; rintro e w5 ⟨A3, c3, rfl, hc3, o3, ch3⟩; have p35 := ((Q3.out.still c34.out).still ch3).c; have f35 := ((Q3.out.still c34.out).still ch3).f))
        all_goals
          have Q35 := (Q3.out.still c34.out).still ch3
          have hret := fun u => Q35.ret u
          have k5 := Lib.hid ((k3.out.trans c34.out).trans ch3)
          have hcf := Lib.hid (k5.out.cell (g := w.heap.size + 1 + 1 + 1) (i := 0) (v := .slice A3 4 c3) (by omega))
          have hst : Hid (Chg w5 (w5.setCell ⟨w.heap.size + 1 + 1 + 1, 0, none⟩ (.slice A3 4 c3)) (w.heap.size + 1 + 1 + 1) (w.heap.size + 4)) := (Chg.refl _ _ _).store (Nat.le_refl _) (by show w.heap.size + 1 + 1 + 1 < w.heap.size + 4; omega) _
          have HO := Lib.hid o3
          clear o3 ch3 p35 f35 Q35
          (try go_wp2_with fail)
          (try simp only [Exit.inBlock, Exit.then])
          refine bodyPost_ret (v := .tuple #[.agg #[.slice A3 4 c3], .int .i64 0]) (by simp [results, Try.results51, go_sem, hret]; try rfl) rfl ?_
          have z4 := c34.out.size
          have z3' := z3.out
          refine ⟨A3, c3, by rw [hv.out, he.out, hl4.out], by rw [hv.out, hl4.out]; exact hc3, ?_, hcf.out⟩
          rw [hv.out, hl4.out]
          exact (HO.out.chg hst.out (.inr (by omega))).more (by omega) hst.out.size

end Go.Proofs.Ytdfmkikngifjmaa.Lib1
