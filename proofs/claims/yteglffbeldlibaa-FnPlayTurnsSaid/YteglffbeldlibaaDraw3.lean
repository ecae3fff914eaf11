/- Chapter 3: the draws of deals. What is drawn is left open but for its form. -/
import Derived.Test.YteglffbeldlibaaDraws
import Derived.Test.YteglffbeldlibaaBoxI
import Derived.Test.YteglffbeldlibaaSetR5
import Derived.Test.YteglffbeldlibaaMapE
namespace Go.Proofs.Yteglffbeldlibaa.Lib1
open Go.RowKit
set_option maxRecDepth 100000

/-- A deal was drawn: four rows of n cards, in memory of its own. -/
def DrewD (g n : Nat) (w : World) (e : Ending) (w' : World) : Prop :=
  ∃ b c zss, e = .returned (.agg #[.slice (some ⟨b, 0, none⟩) 4 c]) ∧ 4 ≤ c ∧ c ≤ maxLen ∧ OwnR w' w.heap.size w'.heap.size (some ⟨b, 0, none⟩) 4 zss ∧ (∀ j, j < 4 → (zss.getD j []).length = n) ∧ Src w' g ∧ Chg w w' g (g + 1)

theorem Rd.part {w : World} {lo hi b n P m : Nat} {zs : List Int} (h : Rd w lo hi (some ⟨b, 0, none⟩) n zs) (hp : P + m ≤ n) : Rd w lo hi (some ⟨b, P, none⟩) m ((zs.drop P).take m) := by
  refine ⟨by have := h.1; simp; omega, fun hm => ?_⟩
  obtain ⟨b', off, e, l1, l2, hc⟩ := h.2 (by omega)
  injection e with e
  injection e with e1 e2 _
  subst e1 e2
  refine ⟨b, P, rfl, l1, l2, fun j hj => ?_⟩
  have := hc (P + j) (by omega)
  rw [Nat.zero_add] at this
  rw [this]
  simp [List.getD, hj]

set_option maxHeartbeats 2000000 in
/-- spec.l03Draw -/
theorem l03Draw (g n : Nat) (w : World) (h : Src w g) (hn : n ≤ 13) :
    Calls Try.prog 144 #[.pointer (some ⟨g, 0, none⟩), .int .i64 (n : Int)] w (DrewD g n w) := by
  have hg := h.lt
  have ca := Lib.hid (Chg.of_alloc w (.cells #[.slice none 0 0] 26) 0 0)
  have R0 := Lib.hid (BoxAt.new w (.slice none 0 0) 26 rfl)
  have hs0 := Lib.hid (h.still ca.out)
  have hz0 : Hid ((w.alloc (.cells #[.slice none 0 0] 26)).heap.size = w.heap.size + 1) := by show _ = _; simp
  go_enter Try.func144, Try.ntmps144
  go_wp2_with fail
  generalize w.alloc (.cells #[.slice none 0 0] 26) = w0 at ca R0 hs0 hz0
  refine (l01Shuffled g _ hs0.out).mono ?_
  rintro e w1 ⟨A, cc, zs, rfl, hcc, ho1, hs1, hch1⟩
  obtain ⟨sb, cs, rfl, sb1, sb2, _⟩ := ho1.2 (by omega)
  have R1 := Lib.hid (show BoxAt w1 w.heap.size (.slice none 0 0) 26 from (hch1.block _ (by have := hz0.out; omega) (.inr (by omega))).trans R0.out)
  have k1 := Lib.hid ((ca.out.any g (g + 1)).trans hch1)
  have z1 := Lib.hid (show w.heap.size + 1 ≤ w1.heap.size by have := hch1.size; have := hz0.out; omega)
  have HR := Lib.hid ho1.rd
  have HS1 := Lib.hid hs1
  have hg1 := Lib.hid hs1.lt
  clear ho1 hs1 hch1 hs0 R0
  go_wp2_with fail
  have Q0 := Lib.hid (BoxAt.new w1 (.slice none 0 0) 26 rfl)
  have B0 := Lib.hid ((Below.refl w1.heap.size w1).alloc (Nat.le_refl _) (.cells #[.slice none 0 0] 26))
  have hz2 : Hid ((w1.alloc (.cells #[.slice none 0 0] 26)).heap.size = w1.heap.size + 1) := by show _ = _; simp
  generalize w1.alloc (.cells #[.slice none 0 0] 26) = w2 at Q0 B0 hz2
  generalize hq : w1.heap.size = q at Q0 B0 hz2
  have HQ := Lib.hid hq
  clear hq
  go_loopw [7] (fun i wr => ∃ (k : Nat) (v : Value) (ys : List (List Int)), k ≤ 4 ∧ i = .int .i64 k ∧ Hid (BoxAt wr q v 26) ∧ OwnVR wr (q + 1) v ys ∧ Hid (ys.length = k) ∧ Hid (∀ j, j < k → (ys.getD j []).length = n) ∧ Hid (Below q w1 wr) ∧ q + 1 ≤ wr.heap.size) (fun i _ => 4 - (intOf i).toNat)
  case atStart => exact ⟨0, _, [], by omega, rfl, Q0.out, OwnVR.nil_ _ _, rfl, fun j hj => by omega, B0.out, by have := hz2.out; omega⟩
  case round =>
    clear Q0 B0 hz2
    obtain ⟨k, v, ys, hk, rfl, hbox, ho, hlen, hrow, hb, hs3⟩ := hrel
    by_cases hlt : k < 4
    · have hkl : (k : Int) < 4 := by omega
      obtain ⟨P, hP⟩ : ∃ P : Nat, P = k * n := ⟨_, rfl⟩
      have hP39 : P ≤ 39 := by rw [hP]; exact Nat.le_trans (Nat.mul_le_mul (show k ≤ 3 by omega) hn) (by omega)
      have hPI : (k : Int) * (n : Int) = (P : Int) := by rw [hP]; exact (Int.natCast_mul k n).symm
      have wf1 : IntKind.i64.wrap ((k : Int) * (n : Int)) = (P : Int) := by rw [hPI]; exact IntWalk.i64_in _ (by omega)
      have wf2 : IntKind.i64.wrap ((P : Int) + (n : Int)) = (P : Int) + (n : Int) := IntWalk.i64_in _ (by omega)
      have hPn : P + n ≤ 52 := by
        have : k * n + n = (k + 1) * n := by rw [Nat.succ_mul]
        have h2 : (k + 1) * n ≤ 4 * 13 := Nat.mul_le_mul (by omega) hn
        omega
      have hPc : (P : Int) + (n : Int) ≤ (cc : Int) := by omega
      have hP0 : (0 : Int) ≤ (P : Int) := by omega
      have hPle : (P : Int) ≤ (P : Int) + (n : Int) := by omega
      have hcP : ¬ (cc = P) := by omega
      have hn1 : ((P : Int) + (n : Int) - (P : Int)).toNat = n := by omega
      have hn2 : ((P : Int) + (n : Int)).toNat = P + n := by omega
      have hn3 : P + n - P = n := by omega
      clear hP hPI
      have hrd := ((HR.out.part hPn).below hb.out (by have := HQ.out; omega)).still (Chg.drewN wr 1 0 0)
      have hCall := Lib.hid (l01Sorted _ n (cc - P) _ _ _ _ hrd (by omega))
      have hb2 := hbox.out.c
      clear hrd
      go_wp2
      go_region_law
        (first
          | (go_simp; go_at_call 169; refine hCall.out.mono ?_; rintro e w3 ⟨v1, zs1, rfl, hl1, o1, b1⟩; have HL1 := Lib.hid hl1; clear hl1; obtain ⟨D, c1, rfl, hc1, hp1, ow1⟩ := o1.form; have hg1 : Below wr.heap.size wr w3 := ((Below.refl _ _).drew).trans b1; have kk1 := box_still hb2 (Chg.of_below hg1 0 0); have kb1 := fun o => box_still kk1 (Chg.of_alloc w3 o 0 0))
          | (refine step_of_wp rfl (wp_pushR (w := wr) (w1 := w3) (.tmp 16) (.tmp 28) rfl (q + 1) v ys (by rfl) ho (fun p _ hp => hg1.block p hp) hg1.size D c1 zs1 ow1 hc1 hp1 (by rfl) (by have := hlen.out; omega) hs3 ?_); intro v2 w4 o2 b2; obtain ⟨A2, c2', rfl, _, _⟩ := o2.own; have HBx := Lib.hid (show BoxAt w4 q v 26 from ((b2.block q (by omega)).trans (hg1.block q (by omega))).trans hbox.out); have kk4 := HBx.out.c; have hf4 := HBx.out.f))
      all_goals
        have e2 : (ys ++ [zs1]).length = ys.length + 1 := by simp
        have hl2 : Hid ((ys ++ [zs1]).length = k + 1) := by show _ = _; rw [List.length_append, hlen.out]; rfl
        rw [e2] at o2
        have hfin := OwnVR.kept (w' := w4.setCell ⟨q, 0, none⟩ (.slice A2 (ys.length + 1) c2')) o2 (fun p hp _ => Below.heap_setCell _ _ _ _ (by show p ≠ q; omega)) (by simp [World.setCell])
        have hcf := Lib.hid ((hb.out.trans (hg1.mono (by omega))).trans (Below.setAt (i := 0) (u := .slice A2 (ys.length + 1) c2') (g := q) (b2.mono (Nat.le_succ q)) (Nat.le_refl _)))
        have hsf : q + 1 ≤ (w4.setCell ⟨q, 0, none⟩ (.slice A2 (ys.length + 1) c2')).heap.size := by have := hg1.size; have := b2.size; simp [World.setCell]; omega
        have hbx2 : Hid (BoxAt (w4.setCell ⟨q, 0, none⟩ (.slice A2 (ys.length + 1) c2')) q (.slice A2 (ys.length + 1) c2') 26) := by show _ = _; have := HBx.out; unfold BoxAt at this; simp [World.setCell, Array.getElem?_modify, this]
        have hrow2 : Hid (∀ j, j < k + 1 → ((ys ++ [zs1]).getD j []).length = n) := fun j hj => by
          rw [getD_snoc, hlen.out]
          by_cases e : j < k
          · rw [if_pos e]; exact hrow.out j e
          · rw [if_neg e, if_pos (by omega)]; exact HL1.out
        clear o2 b2 hg1 hb ho kk1 kk4 kb1 hb2 o1 b1 ow1 hf4 HBx hbox
        go_wp2
        go_roundw
        case rel => exact ⟨k + 1, _, _, by omega, by go_num, hbx2, hfin, hl2, hrow2, hcf, hsf⟩
        case measure => simp [intOf]; omega
    · obtain rfl : k = 4 := by omega
      obtain ⟨b', c', rfl, hc1, hc2, hown⟩ := ho.own4 hlen.out
      have p1 := hbox.out.c
      have R4 := Lib.hid (show BoxAt wr w.heap.size (.slice none 0 0) 26 from (hb.out.block _ (by have := HQ.out; have := z1.out; omega)).trans R1.out)
      have p0 := R4.out.c
      have f0 := R4.out.f
      have hret := fun u => R4.out.ret u
      have hz := Lib.hid (show w.heap.size + 1 ≤ q by have := HQ.out; have := z1.out; omega)
      have hst : Hid (Chg wr (wr.setCell ⟨w.heap.size, 0, none⟩ (.slice (some ⟨b', 0, none⟩) 4 c')) w.heap.size (w.heap.size + 1)) := (Chg.refl _ _ _).store (Nat.le_refl _) (by show w.heap.size < w.heap.size + 1; omega) _
      have hS4 := Lib.hid (HS1.out.under hb.out (by have := HQ.out; have := hg1.out; omega))
      have hch4 := Lib.hid ((k1.out.trans (Chg.of_below (hb.out.mono (by have := HQ.out; omega)) _ _)))
      have HO := Lib.hid hown
      clear ho hown hb
      go_wp2
      (try simp only [Exit.inBlock, Exit.then])
      refine bodyPost_ret (v := .agg #[.slice (some ⟨b', 0, none⟩) 4 c']) (by simp [results, Try.results144, go_sem, hret]; try rfl) rfl ?_
      have := hz.out
      refine ⟨b', c', ys, rfl, hc1, hc2, (HO.out.chg hst.out (.inr (by omega))).more (by omega) hst.out.size, hrow.out, hS4.out.chg hst.out (.inl hg), ?_⟩
      exact chg_new hch4.out (Nat.le_refl _) _

end Go.Proofs.Yteglffbeldlibaa.Lib1
