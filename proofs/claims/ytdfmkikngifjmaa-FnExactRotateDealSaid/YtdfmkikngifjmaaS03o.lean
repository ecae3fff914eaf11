/- Chapter 3: the model's copies of deals: l03Own. -/
import Derived.Test.YtdfmkikngifjmaaS03
import Derived.Test.YtdfmkikngifjmaaNests
import Derived.Deep.RegionLaw
namespace Go.Proofs.Ytdfmkikngifjmaa.Lib1
open Go.RowKit
set_option maxRecDepth 100000

/-- A function hands back a deal of its own. -/
def RetD (w : World) (zss : List (List Int)) (e : Ending) (w' : World) : Prop :=
  ∃ A c, e = .returned (.agg #[.slice A zss.length c]) ∧ zss.length ≤ c ∧ OwnR w' w.heap.size w'.heap.size A zss.length zss ∧ Chg w w' 0 0

theorem take_row {zss : List (List Int)} {k : Nat} (h : k < zss.length) : zss.take (k + 1) = zss.take k ++ [zss.getD k []] := by rw [List.take_succ_eq_append_getElem h, getD_row h]
theorem cell_below {w w' : World} {B : Nat} {a : Addr} {v : Value} (h : w.cell? a = some v) (b : Below B w w') (ha : a.block < B) : w'.cell? a = some v := by
  rw [World.cell?_of_block (b.block _ ha)]; exact h
/-- The three boxes of a function that makes a deal: its argument, its result, the deal that it makes. -/
structure Boxes (w wr : World) (x r v : Value) : Prop where
  b0 : wr.heap[w.heap.size]? = some (.cells #[x] 25 (0, 0))
  b1 : wr.heap[w.heap.size + 1]? = some (.cells #[r] 25 (0, 0))
  b2 : wr.heap[w.heap.size + 1 + 1]? = some (.cells #[v] 25 (0, 0))
theorem Boxes.start (w : World) (x r v : Value) : Boxes w (((w.alloc (.cells #[x] 25)).alloc (.cells #[r] 25)).alloc (.cells #[v] 25)) x r v := by
  have h0 := heap_alloc_new w (.cells #[x] 25)
  have h1 := heap_alloc_new (w.alloc (.cells #[x] 25)) (.cells #[r] 25)
  have h2 := heap_alloc_new ((w.alloc (.cells #[x] 25)).alloc (.cells #[r] 25)) (.cells #[v] 25)
  simp only [World.size_alloc] at h1 h2
  exact ⟨(Below.heap_alloc _ _ _ (by simp; omega)).trans ((Below.heap_alloc _ _ _ (by simp)).trans h0), (Below.heap_alloc _ _ _ (by simp)).trans h1, h2⟩
theorem Boxes.c0 {w wr : World} {x r v : Value} (h : Boxes w wr x r v) : wr.cell? ⟨w.heap.size, 0, none⟩ = some x := by rw [cell_of_row _ _ _ _ _ _ h.b0]; rfl
theorem Boxes.c2 {w wr : World} {x r v : Value} (h : Boxes w wr x r v) : wr.cell? ⟨w.heap.size + 1 + 1, 0, none⟩ = some v := by rw [cell_of_row _ _ _ _ _ _ h.b2]; rfl
theorem Boxes.c1 {w wr : World} {x r v : Value} (h : Boxes w wr x r v) : wr.cell? ⟨w.heap.size + 1, 0, none⟩ = some r := by rw [cell_of_row _ _ _ _ _ _ h.b1]; rfl
theorem Boxes.f1 {w wr : World} {x r v : Value} (h : Boxes w wr x r v) : wr.frozen? ⟨w.heap.size + 1, 0, none⟩ = false := by simp [World.frozen?, h.b1]
theorem Boxes.ret {w wr : World} {x r v : Value} (h : Boxes w wr x r v) (u : Value) : (wr.setCell ⟨w.heap.size + 1, 0, none⟩ u).cell? ⟨w.heap.size + 1, 0, none⟩ = some u := by
  rw [cell_of_row _ _ _ #[u] 25 (0, 0) (by simp [World.setCell, Array.getElem?_modify, h.b1])]; rfl
theorem Boxes.f2 {w wr : World} {x r v : Value} (h : Boxes w wr x r v) : wr.frozen? ⟨w.heap.size + 1 + 1, 0, none⟩ = false := by simp [World.frozen?, h.b2]
theorem Boxes.below {w wr w' : World} {x r v : Value} (h : Boxes w wr x r v) (b : Below (w.heap.size + 3) wr w') : Boxes w w' x r v :=
  ⟨(b.block _ (by omega)).trans h.b0, (b.block _ (by omega)).trans h.b1, (b.block _ (by omega)).trans h.b2⟩
theorem Boxes.put {w wr : World} {x r v : Value} (h : Boxes w wr x r v) (u : Value) : Boxes w (wr.setCell ⟨w.heap.size + 1 + 1, 0, none⟩ u) x r u :=
  ⟨(Below.heap_setCell _ _ _ _ (by show w.heap.size ≠ w.heap.size + 1 + 1; omega)).trans h.b0, (Below.heap_setCell _ _ _ _ (by show w.heap.size + 1 ≠ w.heap.size + 1 + 1; omega)).trans h.b1, by simp [World.setCell, Array.getElem?_modify, h.b2]⟩

set_option maxHeartbeats 2000000 in
/-- spec.l03Own -/
theorem l03Own (A : Option Addr) (n c : Nat) (zss : List (List Int)) (lo hi : Nat) (w : World) (h : RdR w lo hi A n zss) (hn : n ≤ 1048576) (hl : ∀ j, j < n → (zss.getD j []).length ≤ 1048576) :
    Calls Try.prog 89 #[.agg #[.slice A n c]] w (RetD w zss) := by
  have hz := h.1
  go_enter Try.func89, Try.ntmps89
  go_wp2
  have hst := Boxes.start w (.slice A n c) (.slice none 0 0) (.slice none 0 0)
  have hbl : Below w.heap.size w (((w.alloc (.cells #[.slice A n c] 25)).alloc (.cells #[.slice none 0 0] 25)).alloc (.cells #[.slice none 0 0] 25)) := (((Below.refl _ _).alloc (Nat.le_refl _) _).alloc (by simp) _).alloc (by simp; omega) _
  go_loopw [4] (fun i wr => ∃ (k : Nat) (v : Value), k ≤ n ∧ i = .int .i64 k ∧ Hid (Boxes w wr (.slice A n c) (.slice none 0 0) v) ∧ OwnVR wr (w.heap.size + 3) v (zss.take k) ∧ Below w.heap.size w wr ∧ w.heap.size + 3 ≤ wr.heap.size) (fun i _ => n - (intOf i).toNat)
  case atStart => exact ⟨0, _, Nat.zero_le _, rfl, hst, OwnVR.nil_ _ _, hbl, by simp⟩
  case round =>
    clear hst hbl
    obtain ⟨k, v, hk, rfl, hbox, ho, hb, hs3⟩ := hrel
    have hb0 := hbox.out.c0
    by_cases hlt : k < n
    · have hkl : (k : Int) < (n : Int) := by omega
      obtain ⟨b, off, B, C, rfl, _, _, hcw, hrw, hle, hnil⟩ := h.at_ hlt
      have hch := Chg.of_below hb 0 0
      have hcr := box_still hcw hch
      have hbw : b < w.heap.size := lt_of_cell hcw
      have hrd := hrw.still hch
      have hl1 := hl k hlt
      have htk := Lib.hid (take_row (zss := zss) (k := k) (by omega))
      have hkz : (zss.take k).length = k := by simp; omega
      generalize zss.getD k [] = row at hcr hrd hle hl1 htk
      clear hcw hrw
      have hb2 := hbox.out.c2
      have hmd := OwnV.made wr.drew (base := wr.heap.size) (by simp)
      have ka0 := fun o => box_still hb0 (Chg.of_alloc wr o 0 0)
      have ka2 := fun o => box_still hb2 (Chg.of_alloc wr o 0 0)
      have kar := fun o => box_still hcr (Chg.of_alloc wr o 0 0)
      go_wp2
      go_region_law
        (first
          | (refine step_cat rfl (.tmp 15) (.tmp 20) rfl wr.heap.size _ [] (by rfl) hmd lo hi B row.length C row (by rfl) hnil (hrd.still ((Chg.drewN wr 1 0 0).trans (Chg.of_alloc _ _ _ _))) (by simp; omega) (by simp) ?_; intro v1 w1 o1 b1; obtain ⟨D, c1, rfl, hc1, hp1, ow1⟩ := o1.form_at (n := row.length) (by simp); have hg1 : Below wr.heap.size wr w1 := ((Below.refl _ _).drew.alloc (by simp) _).trans b1; have kk1 := box_still hb2 (Chg.of_below hg1 0 0); have kk2 := box_still hb0 (Chg.of_below hg1 0 0); have kk3 := box_still hcr (Chg.of_below hg1 0 0); have kb1 := fun o => box_still kk1 (Chg.of_alloc w1 o 0 0))
          | (refine step_of_wp rfl (wp_pushR (w := wr) (w1 := w1) (.tmp 14) (.tmp 22) rfl (w.heap.size + 3) v (zss.take k) (by rfl) ho (fun q _ hq => hg1.block q hq) hg1.size D c1 row ow1 hc1 hp1 (by rfl) (by omega) hs3 ?_); intro v2 w2 o2 b2; obtain ⟨A2, c2, rfl, _, _⟩ := o2.own; have HBx := Lib.hid ((hbox.out.below (hg1.mono hs3)).below b2); have kk4 := HBx.out.c2; have hf2 := HBx.out.f2))
      all_goals
        have e2 : (zss.take k ++ [row]).length = k + 1 := by rw [List.length_append, hkz]; rfl
        rw [e2] at o2
        rw [← htk.out] at o2
        have hfin := OwnVR.kept (w' := w2.setCell ⟨w.heap.size + 1 + 1, 0, none⟩ (.slice A2 (k + 1) c2)) o2 (fun q hq _ => Below.heap_setCell _ _ _ _ (by show q ≠ w.heap.size + 1 + 1; omega)) (by simp [World.setCell])
        have hcf := ((Chg.of_below ((hb.trans (hg1.mono hb.size)).trans (b2.mono (Nat.le_add_right _ 3))) 0 0).cell (g := w.heap.size + 1 + 1) (i := 0) (v := .slice A2 (k + 1) c2) (by omega)).to_below
        have hsf : w.heap.size + 3 ≤ (w2.setCell ⟨w.heap.size + 1 + 1, 0, none⟩ (.slice A2 (k + 1) c2)).heap.size := by have := hg1.size; have := b2.size; simp [World.setCell]; omega
        clear o2 b2 hg1 hb ho kk1 kk2 kk3 kk4 kb1 ka0 ka2 kar hb0 hb2 hcr hrd hmd o1 b1 ow1
        go_wp2
        go_roundw
        case rel => exact ⟨k + 1, _, by omega, by go_num, HBx.out.put _, hfin, hcf, hsf⟩
        case measure => simp [intOf]; omega
    · obtain rfl : k = n := by omega
      have ht : zss.take k = zss := List.take_of_length_le (by omega)
      rw [ht] at ho
      obtain ⟨A2, c2, rfl, hc2, hown⟩ := ho.own
      have hb2 := hbox.out.c2
      have hb1 := hbox.out.c1
      have hf1 := hbox.out.f1
      have hret := fun u => hbox.out.ret u
      have hfin := Lib.hid (hown.chg (w' := wr.setCell ⟨w.heap.size + 1, 0, none⟩ (.slice A2 zss.length c2)) ((Chg.refl wr (w.heap.size + 1) (w.heap.size + 2)).store (b := w.heap.size + 1) (k := 0) (by omega) (by omega) _) (.inr (by omega)))
      have hcf := Lib.hid ((Chg.of_below hb 0 0).cell (g := w.heap.size + 1) (i := 0) (v := .slice A2 zss.length c2) (by omega))
      rw [hz] at hb2 hfin hcf
      clear hown hb ho
      go_wp2
      (try simp only [Exit.inBlock, Exit.then])
      refine bodyPost_ret (v := .agg #[.slice A2 k c2]) (by simp [results, Try.results89, go_sem, hret]; try rfl) rfl ?_
      exact ⟨A2, c2, by rw [hz], hc2, by rw [hz]; exact hfin.out.more (by omega) (by simp [World.setCell]), hcf.out⟩
end Go.Proofs.Ytdfmkikngifjmaa.Lib1
