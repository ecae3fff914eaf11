/- Chapter 3: applySymmetries over symmetries taken by contract; the program's MirrorDeal. Chapter 3: replaceCards and its two closures, over a replacement of cards taken by contract. Chapter 3: the program's ExchangeCards. -/
import Derived.Test.YteglffbeldlibaaSym
import Derived.Test.YteglffbeldlibaaLists3
import Derived.Test.YteglffbeldlibaaSortI
import Derived.Test.YteglffbeldlibaaS03r
import Derived.Deep.RegionLaw
namespace Go.Proofs.Yteglffbeldlibaa.Lib1

section
open Go.RowKit
set_option maxRecDepth 100000

def iterN (g : List (List Int) → List (List Int)) : Nat → List (List Int) → List (List Int)
  | 0, z => z
  | k + 1, z => g (iterN g k z)
theorem iterN_deal {g : List (List Int) → List (List Int)} (hg : ∀ z, dealB z = true → dealB (g z) = true) {z : List (List Int)} (h : dealB z = true) : ∀ k, dealB (iterN g k z) = true
  | 0 => h
  | k + 1 => hg _ (iterN_deal hg h k)
theorem RdR.all {w : World} {lo hi : Nat} {A : Option Addr} {n : Nat} {zss : List (List Int)} (r : RdR w lo hi A n zss) : RdR w 0 w.heap.size A n zss := by
  obtain ⟨h0, B, C, h1, h2⟩ := r
  refine ⟨h0, B, C, fun hn => ?_, fun j hj => ⟨(h2 j hj).1.all, (h2 j hj).2⟩⟩
  obtain ⟨b, off, e, _, _, hc⟩ := h1 hn
  exact ⟨b, off, e, Nat.zero_le _, lt_of_cell (hc 0 hn), hc⟩
theorem OwnVR.own4 {w : World} {base : Nat} {v : Value} {zss : List (List Int)} (h : OwnVR w base v zss) (h4 : zss.length = 4) : ∃ b c, v = .slice (some ⟨b, 0, none⟩) 4 c ∧ 4 ≤ c ∧ c ≤ maxLen ∧ OwnR w base w.heap.size (some ⟨b, 0, none⟩) 4 zss := by
  have hk := h
  obtain ⟨A, c, e, hc, ho⟩ := h.own
  obtain ⟨B, C, h1, _, _⟩ := hk
  rcases h1.2 with ⟨_, h0⟩ | ⟨g, cap, cur, e2, _, _, _, k2, _⟩
  · omega
  · rw [e] at e2
    injection e2 with e3 _ e4
    subst e3 e4
    rw [h4] at e hc ho
    exact ⟨g, c, e, hc, k2, ho⟩

set_option maxHeartbeats 1000000 in
/-- impl.copyDeal of a deal -/
theorem copyDeal (A : Option Addr) (n c : Nat) (zss : List (List Int)) (lo hi : Nat) (w : World) (h : RdR w lo hi A n zss) (hd : dealB zss = true) :
    Calls Try.prog 117 #[.agg #[.slice A n c]] w fun e w' => ∃ b' c', e = .returned (.agg #[.slice (some ⟨b', 0, none⟩) 4 c']) ∧ 4 ≤ c' ∧ c' ≤ maxLen ∧ OwnR w' w.heap.size w'.heap.size (some ⟨b', 0, none⟩) 4 zss ∧ Chg w w' 0 0 := by
  have hz := h.1
  have hrl := Lib.hid (fun j hj => hand_len ((((deal_iff zss).1 hd).2.1) j hj).1)
  have h4 : n = 4 := by rw [← hz]; exact ((deal_iff zss).1 hd).1
  subst h4
  have c2 := Lib.hid ((Chg.of_alloc w (.cells #[.slice A 4 c] 26) 0 0).trans (Chg.of_alloc _ (.cells #[.slice none 0 0] 26) 0 0))
  have hbx := Lib.hid (Box2.start w (.slice A 4 c) (.slice none 0 0))
  have hsz : Hid (((w.alloc (.cells #[.slice A 4 c] 26)).alloc (.cells #[.slice none 0 0] 26)).heap.size = w.heap.size + 2) := by show _ = _; simp
  have hbc := hbx.out.c0
  have he2 := enters_of Try.func148 (by kernel_rfl) rfl
  go_enter Try.func117, Try.ntmps117
  go_wp2_with fail
  generalize ((w.alloc (.cells #[.slice A 4 c] 26)).alloc (.cells #[.slice none 0 0] 26)) = W0 at c2 hbx hsz hbc
  have hr0 := (h.still c2.out).all
  refine (mapRR (f := 148) (caps := #[]) (g := id) he2 A 4 c zss _ _ W0 hr0 (Nat.le_refl _) (by omega) (fun j hj B C W _ hr hl hp => ?_)).mono ?_
  · have := hrl.out j hj
    exact (copyHand B _ C _ _ _ W hr (by omega) hp).mono fun _ _ q => RetS.of_V q
  rintro e w1 ⟨v, rfl, o1, b1⟩
  rw [List.map_id] at o1
  obtain ⟨b0, c0, rfl, hc0, hc0m, o1⟩ := o1.own4 hz
  have cW1 := Lib.hid (Chg.of_below b1 0 0)
  have hbw := hbx.out.still cW1.out
  have hb1 := hbw.c1
  have hf1 := hbw.f1
  have hret := fun u => hbw.ret u
  have hcst := Lib.hid ((c2.out.trans cW1.out).cell (g := w.heap.size + 1) (i := 0) (v := .slice (some ⟨b0, 0, none⟩) 4 c0) (by omega))
  have hst : Hid (Chg w1 (w1.setCell ⟨w.heap.size + 1, 0, none⟩ (.slice (some ⟨b0, 0, none⟩) 4 c0)) (w.heap.size + 1) (w.heap.size + 2)) := (Chg.refl _ _ _).store (Nat.le_refl _) (by show w.heap.size + 1 < w.heap.size + 2; omega) _
  have HO := Lib.hid o1
  clear b1 hbc hbw o1
  go_wp2_with fail
  (try simp only [Exit.inBlock, Exit.then])
  refine bodyPost_ret (v := .agg #[.slice (some ⟨b0, 0, none⟩) 4 c0]) (by simp [results, Try.results117, go_sem, hret]; try rfl) rfl ?_
  have hs2 := hsz.out
  exact ⟨b0, c0, rfl, hc0, hc0m, (HO.out.chg hst.out (.inr (by omega))).more (by omega) (hst.out.size), hcst.out⟩

theorem deal_field (A : Option Addr) (n c : Nat) (w : World) : (Instr.field 26 (.agg #[.slice A n c]) 0).run Try.prog w = .ok (.slice A n c) w := by kernel_rfl
set_option maxHeartbeats 2000000 in
theorem applySym {f : Nat} {caps : Array Value} {g : List (List Int) → List (List Int)} (he : ∀ args w, (callFunc f args).run Try.prog w = .ok (.enter f args) w)
    (A : Option Addr) (n c : Nat) (zss : List (List Int)) (lo hi : Nat) (w : World) (h : RdR w lo hi A n zss) (hd : dealB zss = true)
    (sb so k sc : Nat) (hS : ∀ j, j < k → w.cell? ⟨sb, so + j, none⟩ = some (.func (.func f) #[] caps)) (hk : k ≤ 1048576) (hg : ∀ z, dealB z = true → dealB (g z) = true) (hf : Sym f caps g w) :
    Calls Try.prog 102 #[.agg #[.slice A n c], .slice (some ⟨sb, so, none⟩) k sc] w (RetD w (iterN g k zss)) := by
  have hz := h.1
  have hrl := Lib.hid (fun j hj => hand_len ((((deal_iff zss).1 hd).2.1) j hj).1)
  have h4 : n = 4 := by rw [← hz]; exact ((deal_iff zss).1 hd).1
  subst h4
  have HG := Lib.hid (fun k => iterN_deal hg hd k)
  have HS := Lib.hid hS
  have HDL := Lib.hid hd
  clear hd hg hS
  have c2 := Lib.hid ((Chg.of_alloc w (.cells #[.slice A 4 c] 26) 0 0).trans (Chg.of_alloc _ (.cells #[.slice none 0 0] 26) 0 0))
  have hbx := Lib.hid (Box2.start w (.slice A 4 c) (.slice none 0 0))
  have hsz : Hid (((w.alloc (.cells #[.slice A 4 c] 26)).alloc (.cells #[.slice none 0 0] 26)).heap.size = w.heap.size + 2) := by show _ = _; simp
  have hbc := hbx.out.c0
  go_enter Try.func102, Try.ntmps102
  go_wp2_with fail
  generalize ((w.alloc (.cells #[.slice A 4 c] 26)).alloc (.cells #[.slice none 0 0] 26)) = W0 at c2 hbx hsz hbc
  refine (copyDeal A 4 c zss lo hi W0 (h.still c2.out) HDL.out).mono ?_
  rintro e w1 ⟨b0, c0, rfl, hc0, hc0m, o1, b1⟩
  have cW1 := Lib.hid b1
  have hfd := deal_field (some ⟨b0, 0, none⟩) 4 c0
  clear b1 hbc
  go_wp2_with fail
  clear hfd
  go_loopw [5, 13] (fun u i wr => ∃ (j : Nat) (b' c' : Nat), j ≤ k ∧ i = .int .i64 j ∧ u = .slice (some ⟨b', 0, none⟩) 4 c' ∧ 4 ≤ c' ∧ Hid (c' ≤ maxLen) ∧ OwnR wr W0.heap.size wr.heap.size (some ⟨b', 0, none⟩) 4 (iterN g j zss) ∧ Chg W0 wr 0 0) (fun _ i _ => k - (intOf i).toNat)
  case atStart => exact ⟨0, _, _, Nat.zero_le _, rfl, rfl, hc0, hc0m, o1, cW1.out⟩
  case round =>
    obtain ⟨j, b', c', hj, rfl, rfl, hc', hcm, ho, hch⟩ := hrel
    by_cases hlt : j < k
    · have hjl : (j : Int) < (k : Int) := by omega
      have hwr := c2.out.trans hch
      have hcs : wr.cell? ⟨sb, so + j, none⟩ = some (.func (.func f) #[] caps) := box_still (HS.out j hlt) hwr
      have hfj := hf b' c' (iterN g j zss) W0.heap.size wr hwr.to_below (by have := hsz.out; omega) hch.size (HG.out j) ho hc' hcm.out
      have hnx : Hid (g (iterN g j zss) = iterN g (j + 1) zss) := rfl
      rw [hnx.out] at hfj
      clear hnx hf ho
      go_wp2_with (refine hfj.mono ?_; rintro e w3 ⟨b3, c3, rfl, hc3, hc3m, o3, ch3⟩)
      have ch03 := hch.trans ch3
      clear hch ch3 hfj hwr hcs
      go_roundw
      case rel => exact ⟨j + 1, _, _, by omega, by go_num, rfl, hc3, hc3m, o3, ch03⟩
      case measure => simp [intOf]; omega
    · obtain rfl : j = k := by omega
      have hbw := hbx.out.still hch
      have hb1 := hbw.c1
      have hf1 := hbw.f1
      have hret := fun u => hbw.ret u
      have hl4 := Lib.hid (((deal_iff _).1 (HG.out j)).1)
      have hcst := Lib.hid ((c2.out.trans hch).cell (g := w.heap.size + 1) (i := 0) (v := .slice (some ⟨b', 0, none⟩) 4 c') (by omega))
      have hst : Hid (Chg wr (wr.setCell ⟨w.heap.size + 1, 0, none⟩ (.slice (some ⟨b', 0, none⟩) 4 c')) (w.heap.size + 1) (w.heap.size + 2)) := (Chg.refl _ _ _).store (Nat.le_refl _) (by show w.heap.size + 1 < w.heap.size + 2; omega) _
      have HO := Lib.hid ho
      clear hbw ho hch
      go_wp2_with fail
      (try simp only [Exit.inBlock, Exit.then])
      refine bodyPost_ret (v := .agg #[.slice (some ⟨b', 0, none⟩) 4 c']) (by simp [results, Try.results102, go_sem, hret]; try rfl) rfl ?_
      have hs2 := hsz.out
      refine ⟨some ⟨b', 0, none⟩, c', by rw [hl4.out], by rw [hl4.out]; exact hc', ?_, hcst.out⟩
      rw [hl4.out]
      exact (HO.out.chg hst.out (.inr (by omega))).more (by omega) (hst.out.size)

theorem one_cell {w : World} {g : Nat} {v : Value} (h : w.cell? ⟨g, 0, none⟩ = some v) : ∀ j, j < 1 → w.cell? ⟨g, 0 + j, none⟩ = some v := by
  intro j hj
  obtain rfl : j = 0 := by omega
  exact h

end

section
open Go.RowKit
set_option maxRecDepth 100000

/-- A replacement of cards, taken by contract, at every world that keeps the blocks of w. -/
def CardFn (f : Nat) (caps : Array Value) (g : Int → Int) (w : World) : Prop :=
  ∀ x : Int, 0 ≤ x → x ≤ 51 → ∀ W, Below w.heap.size w W → Calls Try.prog f (#[.int .i64 x] ++ caps) W fun e w' => e = .returned (.int .i64 (g x)) ∧ Below W.heap.size W w'
theorem CardFn.later {f : Nat} {caps : Array Value} {g : Int → Int} {w w1 : World} (h : CardFn f caps g w) (b : Below w.heap.size w w1) : CardFn f caps g w1 :=
  fun x h0 h1 W hb => h x h0 h1 W (b.trans (hb.mono b.size))



theorem func_store (W : World) (g : Nat) (f : Nat) (caps : Array Value) (m : Mode) : (store ⟨g, 0, none⟩ (.func (.func f) #[] caps) m).run Try.prog W = stored Try.prog W ⟨g, 0, none⟩ (.func (.func f) #[] caps) m := run_store Try.prog W _ _ m rfl


end

section
open Go.RowKit
set_option maxRecDepth 100000

/-! ### Boxes -/
def BoxAt (w : World) (g : Nat) (v : Value) (t : TypeId) : Prop := w.heap[g]? = some (.cells #[v] t (0, 0))
section
variable {w w' : World} {g : Nat} {v : Value} {t : TypeId}
theorem BoxAt.new (w : World) (v : Value) (t : TypeId) {g : Nat} (hg : w.heap.size = g) : BoxAt (w.alloc (.cells #[v] t)) g v t := by subst hg; exact heap_alloc_new w _
theorem BoxAt.lt (h : BoxAt w g v t) : g < w.heap.size := lt_of_block h
theorem BoxAt.alloc (h : BoxAt w g v t) (o : Obj) : BoxAt (w.alloc o) g v t := (Below.heap_alloc _ _ _ h.lt).trans h
theorem BoxAt.still (h : BoxAt w g v t) (c : Chg w w' 0 0) : BoxAt w' g v t := (c.block _ h.lt (.inr (Nat.zero_le _))).trans h
theorem BoxAt.c (h : BoxAt w g v t) : w.cell? ⟨g, 0, none⟩ = some v := by rw [cell_of_row _ _ _ _ _ _ h]; rfl
theorem BoxAt.f (h : BoxAt w g v t) : w.frozen? ⟨g, 0, none⟩ = false := by simp [World.frozen?, show w.heap[g]? = _ from h]
theorem BoxAt.ret (h : BoxAt w g v t) (u : Value) : (w.setCell ⟨g, 0, none⟩ u).cell? ⟨g, 0, none⟩ = some u := by
  rw [cell_of_row _ _ _ #[u] t (0, 0) (by simp [World.setCell, Array.getElem?_modify, show w.heap[g]? = _ from h])]; rfl
theorem BoxAt.drew (h : BoxAt w g v t) : BoxAt w.drew g v t := h
end



end

end Go.Proofs.Yteglffbeldlibaa.Lib1
