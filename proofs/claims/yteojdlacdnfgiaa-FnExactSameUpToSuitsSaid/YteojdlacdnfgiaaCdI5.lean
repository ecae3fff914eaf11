/- Chapter 5: the program's CanonicalDeal. -/
import Derived.Test.YteojdlacdnfgiaaSo5
import Derived.Test.YteojdlacdnfgiaaCmp5
import Derived.Test.YteojdlacdnfgiaaRelI5
import Derived.Test.YteojdlacdnfgiaaPermJ
namespace Go.Proofs.Yteojdlacdnfgiaa.Lib1
open Go.RowKit Go.Shelf
set_option maxRecDepth 100000
attribute [local go_sem] Oper.semAt_some

theorem OwnR.cellsT {T : TypeId} (h1 : T ≠ 2) (h2 : T ≠ 24) {w w' : World} {lo hi : Nat} {A : Option Addr} {n : Nat} {zss : List (List Int)} (h : OwnR w lo hi A n zss) (hk : ∀ (k : Nat) (cs : Array Value) (t : TypeId) (fr : Nat × Nat), t ≠ T → w.heap[k]? = some (.cells cs t fr) → w'.heap[k]? = some (.cells cs t fr)) : OwnR w' lo hi A n zss := by
  obtain ⟨h0, B, C, g1, g2, g3⟩ := h
  refine ⟨h0, B, C, fun hn => ?_, fun j hj => ?_, g3⟩
  · obtain ⟨b, cs, e, l1, l2, hb, hc⟩ := g1 hn
    exact ⟨b, cs, e, l1, l2, hk _ _ _ _ (Ne.symm h2) hb, hc⟩
  · obtain ⟨ho, hl, hp⟩ := g2 j hj
    refine ⟨⟨ho.1, fun hn => ?_⟩, hl, hp⟩
    obtain ⟨b, cs, e, l1, l2, hb, hc⟩ := ho.2 hn
    exact ⟨b, cs, e, l1, l2, hk _ _ _ _ (Ne.symm h1) hb, hc⟩
/-- A deal in a box, its rows in memory of the call's own. -/
def DealIn (w : World) (g : Nat) (A : Option Addr) (c : Nat) (zss : List (List Int)) (W : World) : Prop := BoxAt W g (.slice A 4 c) 36 ∧ 4 ≤ c ∧ OwnR W w.heap.size W.heap.size A 4 zss
theorem DealIn.cells {T : TypeId} (h0 : T ≠ 36) (h1 : T ≠ 2) (h2 : T ≠ 24) {w W W' : World} {g : Nat} {A : Option Addr} {c : Nat} {zss : List (List Int)} (h : DealIn w g A c zss W) (hs : W.heap.size ≤ W'.heap.size)
    (hk : ∀ (k : Nat) (cs : Array Value) (t : TypeId) (fr : Nat × Nat), t ≠ T → W.heap[k]? = some (.cells cs t fr) → W'.heap[k]? = some (.cells cs t fr)) : DealIn w g A c zss W' :=
  ⟨hk _ _ _ _ (Ne.symm h0) h.1, h.2.1, (h.2.2.cellsT h1 h2 hk).more (Nat.le_refl _) hs⟩
theorem DealIn.still {w W W' : World} {g : Nat} {A : Option Addr} {c : Nat} {zss : List (List Int)} (h : DealIn w g A c zss W) (k : Chg W W' 0 0) : DealIn w g A c zss W' :=
  ⟨h.1.still k, h.2.1, (h.2.2.still k).more (Nat.le_refl _) k.size⟩
/-- Between two rounds of CanonicalDeal: the result's box, the relative form, the smallest deal so far. -/
def CdI (w : World) (g : Nat) (Ar : Option Addr) (cr : Nat) (r : List (List Int)) (pre : List (List Int)) (W : World) : Prop :=
  BoxAt W (w.heap.size + 1) (.slice none 0 0) 36 ∧ DealIn w g Ar cr r W ∧ (∃ A c, DealIn w (g + 1) A c (bestL (fun to => permD to r) r pre) W) ∧ Below w.heap.size w W
theorem CdI.own {w : World} {g B cr : Nat} {Ar : Option Addr} {r : List (List Int)} (hB : w.heap.size ≤ B) : OwnFrom B (CdI w g Ar cr r) := fun pre A C row h hg hr => by
  have hk := fun (k : Nat) (cs : Array Value) (t : TypeId) (fr : Nat × Nat) (_ : t ≠ 81) (q : A.heap[k]? = some (.cells cs t fr)) => cells_kept hg (fun r e => (hr r e).2) q
  obtain ⟨h1, h2, ⟨A5, c5, h3⟩, h4⟩ := h
  exact ⟨hk _ _ _ _ (by decide) h1, h2.cells (by decide) (by decide) (by decide) hg.size hk, ⟨A5, c5, h3.cells (by decide) (by decide) (by decide) hg.size hk⟩, h4.grown hg h4.size (fun k e => Nat.le_trans hB (hr k e).1)⟩
theorem CdI.stays {w : World} {g B cr : Nat} {Ar : Option Addr} {r : List (List Int)} (hB : w.heap.size ≤ B) : Stays 81 B (CdI w g Ar cr r) := fun pre A C h k => by
  have hk := fun (i : Nat) (cs : Array Value) (t : TypeId) (fr : Nat × Nat) (ht : t ≠ 81) (q : A.heap[i]? = some (.cells cs t fr)) => k.block q (fun cs' fr' e => by cases e; exact ht rfl)
  obtain ⟨h1, h2, ⟨A5, c5, h3⟩, h5⟩ := h
  refine ⟨hk _ _ _ _ (by decide) h1, h2.cells (by decide) (by decide) (by decide) k.size hk, ⟨A5, c5, h3.cells (by decide) (by decide) (by decide) k.size hk⟩, ⟨k.os.trans h5.os, k.tape.trans h5.tape, k.output.trans h5.output, Nat.le_trans h5.size k.size, fun i hi => ?_⟩⟩
  rw [← h5.block i hi]
  have hx : i < A.heap.size := Nat.lt_of_lt_of_le hi h5.size
  rw [Array.getElem?_eq_getElem hx]
  exact k.same i _ (Array.getElem?_eq_getElem hx) (.inl (by omega))
theorem keepsFrom_store {B : Nat} {W V : World} {g : Nat} {v u : Value} {t : TypeId} (k : Chg W V 0 0) (hb : BoxAt V g v t) (hl : g < W.heap.size) : KeepsFrom B W (V.setCell ⟨g, 0, none⟩ u) :=
  ⟨by simpa [World.setCell] using k.size, fun i o _ hk ho => by
    have hv := (k.block i (lt_of_block hk) (.inr (Nat.zero_le _))).trans hk
    exact (Below.heap_setCell _ _ _ _ (fun e => by subst e; rw [show V.heap[_]? = _ from hb] at hv; cases hv; cases ho)).trans hv⟩
theorem keepT_store {T : TypeId} {W V : World} {g : Nat} {v u : Value} {t : TypeId} (k : Chg W V 0 0) (hb : BoxAt V g v t) (ht : t ≠ T) : KeepT T W (V.setCell ⟨g, 0, none⟩ u) :=
  ⟨by simpa [World.setCell] using k.size, fun i cs fr hk => by
    have hv := (k.block i (lt_of_block hk) (.inr (Nat.zero_le _))).trans hk
    exact (Below.heap_setCell _ _ _ _ (fun e => by subst e; rw [show V.heap[_]? = _ from hb] at hv; cases hv; exact ht rfl)).trans hv⟩
theorem OwnR.store {V : World} {g : Nat} {v u : Value} {lo hi : Nat} {A : Option Addr} {n : Nat} {zss : List (List Int)} (h : OwnR V lo hi A n zss) (hb : BoxAt V g v 36) : OwnR (V.setCell ⟨g, 0, none⟩ u) lo hi A n zss :=
  h.cellsT (T := 36) (by decide) (by decide) fun k cs t fr ht hk => (Below.heap_setCell _ _ _ _ (fun e => by subst e; rw [show V.heap[_]? = _ from hb] at hk; cases hk; exact ht rfl)).trans hk
def CdAx (d : Value) (strain : Int) (g0 g : Nat) (dr f : Value) (x : List Int) (a : Act) (W : World) : Prop :=
  ∃ b, OrdAt W b x ∧ a = { tmps := #[d, .int .i64 strain, .pointer (some ⟨g0, 0, none⟩), undef, .pointer (some ⟨g0 + 1, 0, none⟩), .int .i64 0, .pointer (some ⟨g, 0, none⟩), .pointer (some ⟨g + 1, 0, none⟩), .pointer (some ⟨b, 0, none⟩), undef, undef, d, .bool true, .bool false, undef, .int .i64 strain, .bool true, .bool false, undef, d, dr, dr, .int .i64 strain, f, .agg (ordA x), undef, undef, undef, undef, undef, undef, undef, undef, undef, undef, undef, undef, undef, undef, undef, undef], defers := [] }
theorem RetDI.of_eq {w w' : World} {zss zss' : List (List Int)} {x x' : Int} {e : Ending} (h1 : zss' = zss) (h2 : x' = x) (h : RetDI w zss x e w') : RetDI w zss' x' e w' := by subst h1; subst h2; exact h

set_option maxHeartbeats 2000000 in
theorem impl_CanonicalDeal (A : Option Addr) (n c : Nat) (strain : Int) (zss : List (List Int)) (lo hi : Nat) (w : World) (h : RdR w lo hi A n zss) :
    Calls Try.prog 25 #[.agg #[.slice A n c], .int .i64 strain] w (RetDI w (canV zss strain) (canE zss strain)) := by
  have hz0 : Hid ((w.alloc (.cells #[.slice A n c] 36)).heap.size = w.heap.size + 1) := by show _ = _; simp
  have ca := Lib.hid ((Chg.of_alloc w (.cells #[.slice A n c] 36) 0 0).trans (Chg.of_alloc (w.alloc (.cells #[.slice A n c] 36)) (.cells #[.slice none 0 0] 36) 0 0))
  have D0 := Lib.hid ((BoxAt.new w (.slice A n c) 36 rfl).alloc (.cells #[.slice none 0 0] 36))
  have D1 := Lib.hid (BoxAt.new (w.alloc (.cells #[.slice A n c] 36)) (.slice none 0 0) 36 hz0.out)
  refine callsIn_wide.1 (callsIn_of_wp_marks (n := 3) Try.func25 rfl trivial (wpIn_wide.2 ?_) rfl)
  simp only [Try.ntmps25, List.size_toArray, List.length_cons, List.length_nil, Nat.reduceAdd, Nat.reduceSub, Array.replicate_succ, Array.replicate_zero, List.push_toArray, List.append_toArray, List.nil_append, List.cons_append]
  go_wp2_with fail
  generalize (w.alloc (.cells #[.slice A n c] 36)).alloc (.cells #[.slice none 0 0] 36) = W0 at ca D0 D1 ⊢
  have hb0 := D0.out.c
  go_wp2_with fail
  refine (isDeal A n c zss lo hi _ (h.still ca.out)).mono ?_
  rintro e w1 ⟨rfl, c1⟩
  have k1 := Lib.hid (ca.out.trans c1)
  have E0 := Lib.hid (D0.out.still c1)
  have E1 := Lib.hid (D1.out.still c1)
  clear c1 D0 D1 hb0 hz0
  cases hd : dealB zss with
  | false =>
    have hv : Hid (canV zss strain = []) := by show _ = _; simp [canV, hd]
    have he : Hid (canE zss strain = 1) := by show _ = _; simp [canE, hd]
    clear hd
    have p1 := E1.out.c
    have f1 := E1.out.f
    have hret := fun u => E1.out.ret u
    have hcf := Lib.hid (k1.out.cell (g := w.heap.size + 1) (i := 0) (v := .slice none 0 0) (Nat.le_succ _))
    go_wp2_with fail
    refine ⟨.tuple #[.agg #[.slice none 0 0], .int .i64 1], (by simp [results, Try.results25, go_sem, hret]; try rfl), RetDI.of_eq hv.out he.out ⟨none, 0, rfl, Nat.le_refl _, OwnR.none_, hcf.out⟩⟩
  | true =>
    have HD := Lib.hid hd
    clear hd
    cases hs : inB strain 0 4 with
    | false =>
      have hv : Hid (canV zss strain = []) := by show _ = _; simp [canV, hs]
      have he : Hid (canE zss strain = 2) := by show _ = _; simp [canE, HD.out, hs]
      have HS := Lib.hid hs
      clear hs
      have p1 := E1.out.c
      have f1 := E1.out.f
      have hret := fun u => E1.out.ret u
      have hcf := Lib.hid (k1.out.cell (g := w.heap.size + 1) (i := 0) (v := .slice none 0 0) (Nat.le_succ _))
      go_wp2_with fail
      refine (isStrain strain _).mono ?_
      rintro e w' ⟨rfl, rfl⟩
      rw [HS.out]
      go_wp2_with fail
      refine ⟨.tuple #[.agg #[.slice none 0 0], .int .i64 2], (by simp [results, Try.results25, go_sem, hret]; try rfl), RetDI.of_eq hv.out he.out ⟨none, 0, rfl, Nat.le_refl _, OwnR.none_, hcf.out⟩⟩
    | true =>
      have hv : Hid (canV zss strain = canL zss strain) := by show _ = _; simp [canV, HD.out, hs]
      have he : Hid (canE zss strain = 0) := by show _ = _; simp [canE, HD.out, hs]
      have HS := Lib.hid hs
      have hrv : Hid (relV zss = relRows zss) := by show _ = _; simp [relV, HD.out]
      have hr4 : Hid ((relRows zss).length = 4) := by show _ = _; rw [relRows_length]; exact ((deal_iff zss).1 HD.out).1
      have HR := Lib.hid (rel_deal HD.out)
      clear hs
      have p0 := E0.out.c
      go_wp2_with fail
      refine (isStrain strain _).mono ?_
      rintro e w' ⟨rfl, rfl⟩
      rw [HS.out]
      go_wp2_with fail
      refine (impl_RelativeDeal A n c zss lo hi _ (h.still k1.out)).mono ?_
      rintro e w2 ⟨Ar, cr, rfl, hcr, or, c2⟩
      rw [hrv.out, hr4.out] at or hcr
      rw [hrv.out, hr4.out]
      go_wp2_with fail
      refine (allowedOrders strain _).mono ?_
      rintro e w4 ⟨rfl, rfl⟩
      have z3 : Hid (((w2.alloc (.cells #[.slice Ar 4 cr] 36)).alloc (.cells #[.slice Ar 4 cr] 36)).heap.size = w2.heap.size + 1 + 1) := by show _ = _; simp
      have C1 := Lib.hid (box_at ((w2.alloc (.cells #[.slice Ar 4 cr] 36)).alloc (.cells #[.slice Ar 4 cr] 36)) (.int .i64 strain) 2)
      have k4 := Lib.hid (((Chg.of_alloc w2 (.cells #[.slice Ar 4 cr] 36) 0 0).trans (Chg.of_alloc _ (.cells #[.slice Ar 4 cr] 36) 0 0)).trans (Chg.of_alloc _ (.cells #[.int .i64 strain] 2) 0 0))
      have G6 := Lib.hid (((BoxAt.new w2 (.slice Ar 4 cr) 36 rfl).alloc (.cells #[.slice Ar 4 cr] 36)).alloc (.cells #[.int .i64 strain] 2))
      have G7 := Lib.hid ((BoxAt.new (w2.alloc (.cells #[.slice Ar 4 cr] 36)) (.slice Ar 4 cr) 36 (g := w2.heap.size + 1) (by simp)).alloc (.cells #[.int .i64 strain] 2))
      rw [z3.out] at C1
      rw [z3.out]
      generalize ((w2.alloc (.cells #[.slice Ar 4 cr] 36)).alloc (.cells #[.slice Ar 4 cr] 36)).alloc (.cells #[.int .i64 strain] 2) = W4 at C1 k4 G6 G7 ⊢
      have zg : w.heap.size + 1 < w2.heap.size := Nat.lt_of_lt_of_le E1.out.lt c2.size
      have zw1 := k1.out.size
      have k24 := Lib.hid ((k1.out.trans c2).trans k4.out)
      have hgi := Lib.hid (allowed_gives HS.out C1.out)
      have hDr : DealIn w w2.heap.size Ar cr (relRows zss) W4 := ⟨G6.out, hcr, (or.still k4.out).more zw1 k4.out.size⟩
      have hI0 : CdI w w2.heap.size Ar cr (relRows zss) [] W4 := ⟨(E1.out.still c2).still k4.out, hDr, ⟨Ar, cr, G7.out, hcr, hDr.2.2⟩, k24.out.to_below⟩
      have hzw := Lib.hid k24.out.size
      have HBD := Lib.hid (fun (os : List (List Int)) (hos : ∀ to ∈ os, okO strain to = true) => best_mem HD.out HS.out os hos)
      have HCL : Hid (canL zss strain = bestL (fun to => permD to (relRows zss)) (relRows zss) (ordS strain)) := rfl
      generalize relRows zss = r at or hDr hI0 HBD HCL hr4 HR
      clear hDr or G6 G7 z3 C1 c2 k4 p0
      go_wp2_with fail
      refine (wpIn_wide (n := 3)).1 (wpIn_rangeAll rfl (enters_of Try.func100 (by kernel_rfl) rfl) (fun _ => rfl) hgi.out (CdI w w2.heap.size Ar cr r) (CdI.own hzw.out) (CdI.stays hzw.out) hI0 (CdAx (.agg #[.slice A n c]) strain w.heap.size w2.heap.size (.agg #[.slice Ar 4 cr]) (.func (.func 100) #[] #[.pointer (some ⟨w2.heap.size + 1 + 1, 0, none⟩)])) ?ax ?assign ?body ?done)
      case ax =>
        intro x a' _ X Y row h hgr hr
        obtain ⟨b, hb, e⟩ := h
        exact ⟨b, cells_kept hgr (fun r e => (hr r e).2) hb, e⟩
      case assign =>
        rintro m l pre x W K ⟨r', hr⟩ hI hK
        have hx4 : x.length = 4 := (order_range (okO_order ((mem_ordS strain x).1 (by rw [hr]; simp)))).1
        have hal := Lib.hid (heap_alloc_new W (.cells (ordA [0, 0, 0, 0]) 81))
        have hz : Hid (ordA [0, 0, 0, 0] = #[.int .i64 0, .int .i64 0, .int .i64 0, .int .i64 0]) := rfl
        have ch := (Chg.of_alloc W (.cells (ordA [0, 0, 0, 0]) 81) 0 0).row5 (Nat.le_refl _) (ordA x)
        have hrow : OrdAt ((W.alloc (.cells (ordA [0, 0, 0, 0]) 81)).setRow W.heap.size (ordA x)) W.heap.size x := setRow_heap _ _ _ (ordA x) _ _ hal.out
        have HK := Lib.hid (fun a' h => hK a' _ (KeepsFrom.of_old ch.to_below) (KeepT.below ch.to_below) (CdI.stays (Nat.le_refl _) _ _ _ hI (Turns.of_old ch.to_below)) ⟨W.heap.size, hrow, h⟩)
        have HI := Lib.hid (ord_info hx4)
        have HCE := Lib.hid (ord_cells x)
        have hsz : Hid ((ordA [0, 0, 0, 0]).size = (ordA x).size) := by show _ = _; rw [ordA_size, ordA_size, hx4]; rfl
        clear ch hrow hK hI hr hx4
        dsimp only [ordE]
        rw [hz.out] at hal hsz HK
        generalize ordA x = R at HI HCE hsz HK ⊢
        gi_wp2_with (refine oper_round (fun c h => by cases h) (wp_store_row 81 _ _ rfl W.heap.size R rfl rfl 81 _ hal.out HI.out hsz.out HCE.out ?_))
        exact HK.out _ rfl
      case body =>
        rintro m l pre x a' W ⟨r', hr'⟩ ⟨hb1, hR, ⟨A5, c5, hS⟩, hB⟩ ⟨b, hO, rfl⟩
        have hox := okO_order ((mem_ordS strain x).1 (by rw [hr']; simp))
        have hx4 : x.length = 4 := (order_range hox).1
        have hbd : Hid (dealB (bestL (fun to => permD to r) r pre) = true) := by
          obtain ⟨to, ht, e⟩ := HBD.out pre (fun to hto => (mem_ordS strain to).1 (by rw [hr']; exact List.mem_append_left _ hto))
          show _ = _
          rw [e]; exact permD_deal (okO_order ht) HR.out
        have hstep := Lib.hid (bestL_snoc (fun to => permD to r) r pre x)
        have hpd := Lib.hid (permD_deal hox HR.out)
        have hV : Hid (permV r x = permD x r) := permV_is hox HR.out
        have hE : Hid (permE r x = 0) := permE_is hox HR.out
        have hp4 : Hid ((permD x r).length = 4) := by show _ = _; rw [permD_length, hr4.out]
        have hrd := hO.rd (n := 4) (by omega)
        rw [List.take_of_length_le (by omega)] at hrd
        have dr := Lib.hid (show Chg W W.drew 0 0 from Chg.drewN W 1 0 0)
        have hper := Lib.hid (fun (V : World) (k : Chg W V 0 0) => (show Calls Try.prog 63 #[.agg #[.slice Ar 4 cr], .slice (some ⟨b, 0, none⟩) 4 4] V (fun e w' => ∃ A1 c1, e = .returned (.tuple #[.agg #[.slice A1 4 c1], .int .i64 0]) ∧ 4 ≤ c1 ∧ OwnR w' V.heap.size w'.heap.size A1 4 (permD x r) ∧ Chg V w' 0 0) by
          have := permuteSuits Ar 4 cr r _ _ (some ⟨b, 0, none⟩) 4 4 x 0 W.heap.size V (hR.2.2.still k).rd (hrd.still k)
          rw [hV.out, hE.out] at this
          refine this.mono ?_
          rintro e w' ⟨A1, c1, e1, h1, h2, h3⟩
          rw [hp4.out] at e1 h1 h2
          exact ⟨A1, c1, e1, h1, h2, h3⟩))
        have p6 := (show BoxAt W.drew _ _ _ from hR.1).c
        clear hr' hox hx4 hrd
        generalize bestL (fun to => permD to r) r pre = best at hS hbd hstep
        generalize permD x r = px at hstep hpd hper
        obtain ⟨P, hP⟩ : ∃ P : World → Prop, Hid (∀ W', (KeepsFrom W4.heap.size W W' ∧ KeepT 81 W W' ∧ CdI w w2.heap.size Ar cr r (pre ++ [x]) W') → P W') ∧ Hid (∀ W', P W' → (KeepsFrom W4.heap.size W W' ∧ KeepT 81 W W' ∧ CdI w w2.heap.size Ar cr r (pre ++ [x]) W')) := ⟨_, fun _ h => h, fun _ h => h⟩
        refine wpIn_mono (Q := fun e _ W' => e = .normal ∧ P W') ?_ (fun e a' W' h => by obtain ⟨rfl, h⟩ := h; exact hP.2.out W' h)
        obtain ⟨hP, _⟩ := hP
        gi_wp2_with fail
        refine round_any (fun V => V.cell? ⟨w2.heap.size, 0, none⟩ = some (.slice Ar 4 cr)) (by kernel_rfl) (by kernel_rfl) p6 (fun hHeld => ?_)
        refine wpAnyH_take (i := 0) (v := .agg #[.slice Ar 4 cr]) rfl (by kernel_rfl) (by kernel_rfl) (by kernel_rfl) AtEnd.panic (.inl ⟨by rfl, fun V hV => by go_simp⟩) hHeld ?_
        refine wpAnyH_take (i := 1) (v := .slice (some ⟨b, 0, none⟩) 4 4) rfl (by kernel_rfl) (by kernel_rfl) (by kernel_rfl) AtEnd.panic (.inl ⟨by rfl, fun V hV => by go_simp⟩) hHeld ?_
        refine wpAnyH_ready (rs := [2, 6]) (by kernel_rfl) (by simp) (AllReadyH.cons (i := 2) rfl (fun K' hK' => ?r2) (AllReadyH.cons (i := 6) rfl (fun K' hK' => ?r6) AllReadyH.nil))
        case' r2 =>
          go_simp
          refine (hper.out _ dr.out).mono ?_
          rintro e w1' ⟨A1, c1', rfl, hc1, o1, ch1⟩
          have q1 := box_still p6 ch1
          refine hK'.out _ _ q1 (fun hHeld => ?_)
          clear hK'
          refine wpAnyH_take (i := 3) (v := .tuple #[.agg #[.slice A1 4 c1'], .int .i64 0]) rfl (by kernel_rfl) (by kernel_rfl) (by kernel_rfl) AtEnd.panic (.inl ⟨by rfl, fun V hV => by go_simp⟩) hHeld ?_
          refine wpAnyH_take (i := 4) (v := .agg #[.slice A1 4 c1']) rfl (by kernel_rfl) (by kernel_rfl) (by kernel_rfl) AtEnd.panic (.inl ⟨by rfl, fun V hV => by go_simp⟩) hHeld ?_
          refine wpAnyH_take (i := 5) (v := .int .i64 0) rfl (by kernel_rfl) (by kernel_rfl) (by kernel_rfl) AtEnd.panic (.inl ⟨by rfl, fun V hV => by go_simp⟩) hHeld ?_
          have Bx := Lib.hid (BoxAt.new w1' (.slice none 0 0) 36 rfl)
          have kV := Lib.hid ((dr.out.trans ch1).trans (Chg.of_alloc w1' (.cells #[.slice none 0 0] 36) 0 0))
          have oV := Lib.hid ((o1.still (Chg.of_alloc w1' (.cells #[.slice none 0 0] 36) 0 0)).more (show w.heap.size ≤ W.drew.heap.size from hB.size) (Chg.of_alloc w1' (.cells #[.slice none 0 0] 36) 0 0).size)
          have q3 := box_still q1 (Chg.of_alloc w1' (.cells #[.slice none 0 0] 36) 0 0)
          refine wpAnyH_ready (rs := [6]) (by kernel_rfl) (by simp) (AllReadyH.cons (i := 6) rfl (fun K' hK' => ?_) AllReadyH.nil)
          go_simp
          refine hK'.out _ _ q3 (fun hHeld => ?_)
          clear hK'
          obtain ⟨gx, hgx⟩ : ∃ gx, gx = w1'.heap.size := ⟨_, rfl⟩
          have zx : W.heap.size ≤ gx := by rw [hgx]; exact ch1.size
          rw [← hgx] at Bx ⊢
          clear hgx o1 ch1 q1
          generalize w1'.alloc (.cells #[.slice none 0 0] 36) = V at Bx kV oV q3 ⊢
        case' r6 =>
          go_simp
          have BN := BoxAt.new W.drew (.slice none 0 0) 36 (g := W.heap.size) rfl
          have kN := dr.out.trans (Chg.of_alloc W.drew (.cells #[.slice none 0 0] 36) 0 0)
          have q1 := box_still p6 (Chg.of_alloc W.drew (.cells #[.slice none 0 0] 36) 0 0)
          refine hK'.out _ _ q1 (fun hHeld => ?_)
          clear hK'
          refine wpAnyH_ready (rs := [2]) (by kernel_rfl) (by simp) (AllReadyH.cons (i := 2) rfl (fun K' hK' => ?_) AllReadyH.nil)
          go_simp
          refine (hper.out _ kN).mono ?_
          rintro e V ⟨A1, c1', rfl, hc1, o1, ch1⟩
          have q3 := box_still q1 ch1
          refine hK'.out _ _ q3 (fun hHeld => ?_)
          clear hK'
          refine wpAnyH_take (i := 3) (v := .tuple #[.agg #[.slice A1 4 c1'], .int .i64 0]) rfl (by kernel_rfl) (by kernel_rfl) (by kernel_rfl) AtEnd.panic (.inl ⟨by rfl, fun V hV => by go_simp⟩) hHeld ?_
          refine wpAnyH_take (i := 4) (v := .agg #[.slice A1 4 c1']) rfl (by kernel_rfl) (by kernel_rfl) (by kernel_rfl) AtEnd.panic (.inl ⟨by rfl, fun V hV => by go_simp⟩) hHeld ?_
          refine wpAnyH_take (i := 5) (v := .int .i64 0) rfl (by kernel_rfl) (by kernel_rfl) (by kernel_rfl) AtEnd.panic (.inl ⟨by rfl, fun V hV => by go_simp⟩) hHeld ?_
          have Bx := Lib.hid (BN.still ch1)
          have kV := Lib.hid (kN.trans ch1)
          have oV := Lib.hid (o1.more (show w.heap.size ≤ _ from Nat.le_trans hB.size kN.size) (Nat.le_refl _))
          obtain ⟨gx, hgx⟩ : ∃ gx, gx = W.heap.size := ⟨_, rfl⟩
          have zx : W.heap.size ≤ gx := by rw [hgx]; exact Nat.le_refl _
          rw [← hgx] at Bx ⊢
          clear hgx o1 ch1 q1 BN kN
        all_goals
          have f7 := Bx.out.f
          have c7 := Bx.out.c
          have Bx5 := Lib.hid (Bx.out.put (.slice A1 4 c1'))
          have k5 := Lib.hid (kV.out.cell (g := gx) (i := 0) (v := .slice A1 4 c1') zx)
          have o5 := Lib.hid (((oV.out.store (u := .slice A1 4 c1') Bx.out)).more (Nat.le_refl _) (show V.heap.size ≤ (V.setCell ⟨gx, 0, none⟩ (.slice A1 4 c1')).heap.size by simp [World.setCell]))
          have q5 : (V.setCell ⟨gx, 0, none⟩ (.slice A1 4 c1')).cell? ⟨w2.heap.size, 0, none⟩ = some (.slice Ar 4 cr) := (hR.1.still k5.out).c
          refine wpAnyH_ready (rs := [7]) (by kernel_rfl) (by simp) (AllReadyH.cons (i := 7) rfl (fun K' hK' => ?_) AllReadyH.nil)
          go_simp
          refine hK'.out _ _ q5 (fun hHeld => ?_)
          clear hK'
          clear f7 c7 Bx kV oV q3
          generalize V.setCell ⟨gx, 0, none⟩ (.slice A1 4 c1') = W5 at Bx5 k5 o5 q5 ⊢
          refine wpAnyH_ready (rs := [8]) (by kernel_rfl) (by simp) (AllReadyH.cons (i := 8) rfl (fun K' hK' => ?_) AllReadyH.nil)
          go_simp
          refine hK'.out _ _ q5 (fun hHeld => ?_)
          clear hK'
          refine wpAnyH_done (by kernel_rfl) ⟨rfl, ?_⟩ _
          have S5 := hS.still k5.out
          have hcd := Lib.hid (compareDeals A1 c1' px _ _ A5 c5 best _ _ W5 o5.out.rd S5.2.2.rd hpd.out hbd.out)
          have hless := cmpI_less px.flatten best.flatten
          have p9 := Bx5.out.c
          have p7 := S5.1.c
          clear q5 hHeld
          by_cases hlt : cmpI px.flatten best.flatten < 0
          · have HN : Hid (bestL (fun to => permD to r) r (pre ++ [x]) = px) := by
              show _ = _
              rw [hstep.out, if_pos]
              unfold lessB
              rw [← hless]; simpa using hlt
            generalize cmpI px.flatten best.flatten = z at hcd hlt
            clear hless hstep
            gi_wp2_with (refine ⟨trivial, (fun q => by simp [Fence.wide] at q), ?_⟩; gi_at_call 64; refine (CallsIn.inRound l (callsIn_wide.2 hcd.out)).mono ?_; rintro e w6 ⟨rfl, k6⟩; have p96 := box_still p9 k6; have s76 := S5.1.still k6; have p76 := s76.c; have f76 := s76.f)
            have k56 := k5.out.trans k6
            have z5 : ∀ V : World, ∀ u, w6.heap.size ≤ (w6.setCell ⟨w2.heap.size + 1, 0, none⟩ u).heap.size := fun _ u => by simp [World.setCell]
            refine hP.out _ ⟨keepsFrom_store k56 s76 hS.1.lt, keepT_store k56 s76 (by decide), (hb1.still k56).set (by omega), ⟨(hR.1.still k56).set (by omega), hR.2.1, ((hR.2.2.still k56).store s76).more (Nat.le_refl _) (Nat.le_trans k56.size (z5 w6 _))⟩, ⟨A1, c1', ?_⟩, (hB.trans (k56.to_below.mono hB.size)).setCell (by show w.heap.size ≤ w2.heap.size + 1; omega) _⟩
            rw [HN.out]
            exact ⟨s76.put _, hc1, ((o5.out.still k6).store s76).more (Nat.le_refl _) (Nat.le_trans k6.size (z5 w6 _))⟩
          · have HN : Hid (bestL (fun to => permD to r) r (pre ++ [x]) = best) := by
              show _ = _
              rw [hstep.out, if_neg]
              unfold lessB
              rw [← hless]; simpa using hlt
            generalize cmpI px.flatten best.flatten = z at hcd hlt
            have hdec : decide (z < 0) = false := by simpa using hlt
            clear hless hstep hlt
            gi_wp2_with (refine ⟨trivial, (fun q => by simp [Fence.wide] at q), ?_⟩; gi_at_call 64; refine (CallsIn.inRound l (callsIn_wide.2 hcd.out)).mono ?_; rintro e w6 ⟨rfl, k6⟩)
            have k56 := k5.out.trans k6
            exact hP.out _ ⟨KeepsFrom.of_old k56.to_below, KeepT.below k56.to_below, hb1.still k56, hR.still k56, ⟨A5, c5, by rw [HN.out]; exact hS.still k56⟩, hB.trans (k56.to_below.mono hB.size)⟩
      case done =>
        rintro D W hD ⟨hb1, _, ⟨A5, c5, hS⟩, hB⟩ hK
        have hk := fun (k : Nat) (cs : Array Value) (t : TypeId) (fr : Nat × Nat) (q : W.heap[k]? = some (.cells cs t fr)) => cells_kept (grownBy_putObj' W D (.deferred none)) (fun r e => by cases e; exact ⟨_, hK, rfl⟩) q
        have hl4 : Hid ((canV zss strain).length = 4) := by
          show _ = _
          rw [hv.out]; exact ((deal_iff _).1 (can_deal HD.out HS.out)).1
        have HVL : Hid (canV zss strain = bestL (fun to => permD to r) r (ordS strain)) := by show _ = _; rw [hv.out, HCL.out]
        rw [← HVL.out] at hS
        have p7 := hS.1.c
        have p1 := hb1.c
        have f1 := hb1.f
        have hD1 : D ≠ w.heap.size + 1 := by
          rintro rfl
          rw [show W.heap[_]? = _ from hb1] at hK
          cases hK
        have hKS : (W.setCell ⟨w.heap.size + 1, 0, none⟩ (.slice A5 4 c5)).heap[D]? = some (.deferred (some [])) := (Below.heap_setCell _ _ _ _ hD1).trans hK
        have hb3 : BoxAt ((W.setCell ⟨w.heap.size + 1, 0, none⟩ (.slice A5 4 c5)).putObj D (.deferred none)) (w.heap.size + 1) (.slice A5 4 c5) 36 := (World.putObj_heap_other (Ne.symm hD1)).trans (hb1.put _)
        have hret := hb3.c
        have o3 := ((hS.2.2.store (u := .slice A5 4 c5) hb1).cellsT (T := 81) (by decide) (by decide) fun k cs t fr _ q => cells_kept (grownBy_putObj' _ D (.deferred none)) (fun r e => by cases e; exact ⟨_, hKS, rfl⟩) q).more (lo' := w.heap.size) (Nat.le_refl _) (show W.heap.size ≤ ((W.setCell ⟨w.heap.size + 1, 0, none⟩ (.slice A5 4 c5)).putObj D (.deferred none)).heap.size by simp [World.setCell])
        have hBf := Lib.hid ((hB.setCell (p := ⟨w.heap.size + 1, 0, none⟩) (Nat.le_succ _) (.slice A5 4 c5)).trans (belowK_b (w := w) (Nat.le_refl _) _ D _ (.deferred none) (by have := hzw.out; omega) hKS rfl rfl))
        have HO := Lib.hid o3
        have hcc := hS.2.1
        clear hk hb1 hS hB hb3 o3
        go_wp2
        refine ⟨by simp, .inl ⟨_, _, rfl, run_takeDeferred hKS, ?_⟩⟩
        refine ⟨.tuple #[.agg #[.slice A5 4 c5], .int .i64 0], (by simp [results, Try.results25, go_sem, hret]; try rfl), ?_⟩
        rw [he.out]
        exact ⟨A5, c5, by rw [hl4.out], by rw [hl4.out]; exact hcc, by rw [hl4.out]; exact HO.out, Chg.of_below hBf.out 0 0⟩

end Go.Proofs.Yteojdlacdnfgiaa.Lib1
