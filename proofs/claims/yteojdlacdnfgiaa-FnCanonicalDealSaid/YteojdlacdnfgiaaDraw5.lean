/- Chapter 5: the draws of deals of few cards. (Written by wip/gen5d.py.) -/
import Derived.Test.YteojdlacdnfgiaaDraw3b
namespace Go.Proofs.Yteojdlacdnfgiaa.Lib1
open Go.RowKit
set_option maxRecDepth 100000

def upL5 : Nat → List Int
  | 0 => []
  | k + 1 => upL5 k ++ [(k : Int)]
theorem upL5_length : ∀ k, (upL5 k).length = k
  | 0 => rfl
  | k + 1 => by rw [upL5, List.length_append, upL5_length k]; rfl
/-- How many cards lie below 26. -/
def fewC (zs : List Int) : Nat := zs.countP fun z => decide (z < 26)
theorem few_swap {ys : List Int} {q r : Nat} (hq : q < ys.length) (hr : r < ys.length) : fewC ((ys.set q (ys.getD r 0)).set r (ys.getD q 0)) = fewC ys := by
  unfold fewC
  have hpq : (if decide (ys[q] < 26) = true then 1 else 0) ≤ ys.countP fun z => decide (z < 26) := by
    split
    · exact List.countP_pos_iff.2 ⟨ys[q], List.getElem_mem _, by assumption⟩
    · exact Nat.zero_le _
  rw [getD_at _ _ hq, getD_at _ _ hr, List.countP_set (by simpa using hr), List.countP_set hq, List.getElem_set]
  by_cases e : q = r
  · subst e
    rw [if_pos rfl]
    generalize (if decide (ys[q] < 26) = true then 1 else 0) = t at hpq ⊢
    omega
  · rw [if_neg e]
    generalize (if decide (ys[q] < 26) = true then 1 else 0) = t at hpq ⊢
    have hpr : (if decide (ys[r] < 26) = true then 1 else 0) ≤ (ys.countP fun z => decide (z < 26)) - t + (if decide (ys[r] < 26) = true then 1 else 0) := by omega
    omega
/-- The cards were shuffled. -/
def DrewF (g : Nat) (w : World) (e : Ending) (w' : World) : Prop :=
  ∃ A c zs, e = .returned (.slice A 52 c) ∧ 52 ≤ c ∧ fewC zs = 26 ∧ Own w' w.heap.size w'.heap.size A 52 zs ∧ Src w' g ∧ Chg w w' g (g + 1)

set_option maxHeartbeats 1600000 in
/-- spec.l01Shuffled, and how many of the cards lie below 26 -/
theorem l01ShuffledF (g : Nat) (w : World) (h : Src w g) :
    Calls Try.prog 95 #[.pointer (some ⟨g, 0, none⟩)] w (DrewF g w) := by
  have hg := h.lt
  go_enter Try.func95, Try.ntmps95
  go_wp2
  go_loopw [3, 4] (fun v i wr => ∃ (k : Nat) (zs : List Int), k ≤ 52 ∧ i = .int .i64 k ∧ Hid (zs = upL5 k) ∧ OwnV wr w.heap.size v zs ∧ Below w.heap.size w wr) (fun _ i _ => 52 - (intOf i).toNat)
  case atStart => exact ⟨0, [], by omega, rfl, rfl, OwnV.made w (Nat.le_refl _), (Below.refl _ _).alloc (Nat.le_refl _) _⟩
  case round =>
    obtain ⟨k, zs, hk, rfl, hl, ho, hb⟩ := hrel
    by_cases hlt : k < 52
    · have hltI : (k : Int) < 52 := by omega
      have hlen : zs.length ≤ 1048576 := by rw [hl.out, upL5_length]; omega
      have hsize := hb.size
      go_wp2_with (at_builtin; refine wpList_push rfl _ _ rfl w.heap.size _ _ rfl ho (k : Int) rfl hlen hsize ?_; intro v' w1 ho1 hb1)
      have hl1 : Hid (zs ++ [(k : Int)] = upL5 (k + 1)) := by show _ = _; rw [hl.out]; rfl
      have hb2 := hb.trans hb1
      clear ho hb hb1
      go_roundw
      case rel => exact ⟨k + 1, _, by omega, by go_num, hl1, ho1, hb2⟩
      case measure => simp [intOf]; omega
    · have hltI : ¬ (k : Int) < 52 := by omega
      obtain ⟨A, c, rfl, hc, _, hown⟩ := ho.form_at (show zs.length = 52 by rw [hl.out, upL5_length]; omega)
      have hs1 := h.below hb
      have hch := Chg.of_below hb g (g + 1)
      have hF0 : Hid (fewC zs = 26) := by show _ = _; rw [hl.out, show k = 52 by omega]; decide
      clear ho hl
      generalize hH : wr.heap.size = H at hown
      have HH := Lib.hid hH
      clear hH
      go_wp2
      go_loopw [5] (fun i wr => ∃ (q : Nat) (ys : List Int), q ≤ 51 ∧ i = .int .i64 q ∧ Own wr w.heap.size H A 52 ys ∧ Hid (fewC ys = 26) ∧ Src wr g ∧ Chg w wr g (g + 1) ∧ Hid (H ≤ wr.heap.size)) (fun i _ => (intOf i).toNat)
      case atStart => exact ⟨51, zs, by omega, rfl, hown, hF0, hs1, hch, Nat.le_of_eq HH.out.symm⟩
      case round =>
        obtain ⟨q, ys, hq, rfl, ho2, hF2, hs2, hc2, hz2⟩ := hrel
        by_cases hq0 : 0 < q
        · have hq0I : (0 : Int) < (q : Int) := by omega
          have hgH : g + 1 ≤ w.heap.size := hg
          go_wp2_with fail
          refine (l01Next g ((q : Int) + 1) _ hs2 (by omega)).mono ?_
          rintro e w3 ⟨r, rfl, ⟨r0, r1⟩, hs3, hc3⟩
          have r2 := r1 (by omega)
          have ho3 := ho2.chg hc3 (.inr hgH)
          have hch3 := hc2.trans hc3
          have hz3 : Hid (H ≤ w3.heap.size) := Nat.le_trans hz2.out hc3.size
          clear ho2 hc2 hc3 hs2 hz2
          obtain ⟨b, cs, rfl, hb1, hb2, hbk, hcs⟩ := ho3.2 (by omega)
          have cq : w3.cell? ⟨b, q, none⟩ = some (.int .i64 (ys.getD q 0)) := by rw [cell_of_row w3 b q cs _ _ hbk]; exact hcs q (by omega)
          have cr : w3.cell? ⟨b, r.toNat, none⟩ = some (.int .i64 (ys.getD r.toNat 0)) := by rw [cell_of_row w3 b r.toNat cs _ _ hbk]; exact hcs r.toNat (by omega)
          have fq : w3.frozen? ⟨b, q, none⟩ = false := by simp [World.frozen?, hbk]
          have fr : w3.frozen? ⟨b, r.toNat, none⟩ = false := by simp [World.frozen?, hbk]
          have ow := (ho3.set (k := q) (by omega) (ys.getD r.toNat 0)).set (k := r.toNat) (by omega) (ys.getD q 0)
          have hF4 : Hid (fewC ((ys.set q (ys.getD r.toNat 0)).set r.toNat (ys.getD q 0)) = 26) := by show _ = _; rw [few_swap (by have := ho3.1; omega) (by have := ho3.1; omega)]; exact hF2.out
          generalize ys.getD q 0 = y at cq ow hF4
          generalize ys.getD r.toNat 0 = y' at cr ow hF4
          have hsr : Hid (Src ((w3.setCell ⟨b, q, none⟩ (.int .i64 y')).setCell ⟨b, r.toNat, none⟩ (.int .i64 y)) g) := by
            have e1 := Src_far (i := q) hs3 (show g < b by omega) (.int .i64 y')
            exact Src_far (i := r.toNat) e1 (show g < b by omega) (.int .i64 y)
          have hchg : Chg w ((w3.setCell ⟨b, q, none⟩ (.int .i64 y')).setCell ⟨b, r.toNat, none⟩ (.int .i64 y)) g (g + 1) := chg_new (chg_new hch3 hb1 _) hb1 _
          have hz4 : Hid (H ≤ ((w3.setCell ⟨b, q, none⟩ (.int .i64 y')).setCell ⟨b, r.toNat, none⟩ (.int .i64 y)).heap.size) := by
            show _ ≤ _
            simpa [World.setCell] using hz3.out
          clear hbk hcs ho3 hch3 hs3 hz3 r1
          by_cases hrq : r.toNat = q
          · obtain rfl : r = (q : Int) := by omega
            rw [Int.toNat_natCast] at ow hsr hchg hz4 cr fr hF4
            obtain rfl : y' = y := by rw [cq] at cr; injection cr with cr; injection cr with _ cr; exact cr.symm
            clear cr fr
            go_wp2_with fail
            go_roundw
            case rel => exact ⟨q - 1, _, by omega, by rw [show ((q - 1 : Nat) : Int) = (q : Int) - 1 by omega], ow, hF4, hsr, hchg, hz4⟩
            case measure => simp [intOf]; omega
          · go_wp2_with fail
            go_roundw
            case rel => exact ⟨q - 1, _, by omega, by rw [show ((q - 1 : Nat) : Int) = (q : Int) - 1 by omega], ow, hF4, hsr, hchg, hz4⟩
            case measure => simp [intOf]; omega
        · have hq0I : ¬ (0 : Int) < (q : Int) := by omega
          go_wp2_with fail
          go_ret
          exact ⟨A, c, ys, rfl, hc, hF2.out, ho2.more (Nat.le_refl _) hz2.out, hs2, hc2⟩


set_option maxHeartbeats 4000000 in
/-- spec.l05Draw -/
theorem l05Draw (g : Nat) (w : World) (h : Src w g) : Calls Try.prog 58 #[.pointer (some ⟨g, 0, none⟩)] w (DrewAny g w) := by
  have hg := h.lt
  have ca := Lib.hid (Chg.of_alloc w (.cells #[.slice none 0 0] 36) 0 0)
  have R0 := Lib.hid (BoxAt.new w (.slice none 0 0) 36 rfl)
  have hs0 := Lib.hid (h.still ca.out)
  have hz0 : Hid ((w.alloc (.cells #[.slice none 0 0] 36)).heap.size = w.heap.size + 1) := by show _ = _; simp
  go_enter Try.func58, Try.ntmps58
  go_wp2_with fail
  generalize w.alloc (.cells #[.slice none 0 0] 36) = w0 at ca R0 hs0 hz0
  refine (l01Next g 6 _ hs0.out (by omega)).mono ?_
  rintro e u1 ⟨r, rfl, ⟨r0, _⟩, s1, k1⟩
  have A1 := Lib.hid (show BoxAt u1 w.heap.size (.slice none 0 0) 36 from R0.out.far k1 (by omega))
  have K1 := Lib.hid ((ca.out.any g (g + 1)).trans k1)
  have Z1 := Lib.hid (show w.heap.size + 1 ≤ u1.heap.size by have := k1.size; have := hz0.out; omega)
  clear k1 R0 hs0 ca
  by_cases hr0 : r = 0
  · subst hr0
    go_wp2_with fail
    refine (l03DrawAny g _ s1).mono ?_
    rintro e u2 ⟨A2, n2, c2, zss, rfl, hn2, hc2, rd2, h15, s2, k2⟩
    have A2' := Lib.hid (A1.out.far k2 (by omega))
    have K2 := Lib.hid (K1.out.trans k2)
    have p0 := A2'.out.c
    have f0 := A2'.out.f
    have hret := fun u => A2'.out.ret u
    have hst : Hid (Chg u2 (u2.setCell ⟨w.heap.size, 0, none⟩ (.slice A2 n2 c2)) w.heap.size (w.heap.size + 1)) := (Chg.refl _ _ _).store (Nat.le_refl _) (by show w.heap.size < w.heap.size + 1; omega) _
    have RD := Lib.hid rd2
    have S2 := Lib.hid s2
    have H15 := Lib.hid h15
    clear rd2 s2 k2 h15
    go_wp2
    (try simp only [Exit.inBlock, Exit.then])
    refine bodyPost_ret (v := .agg #[.slice A2 n2 c2]) (by simp [results, Try.results58, go_sem, hret]; try rfl) rfl ?_
    exact ⟨A2, n2, c2, zss, rfl, hn2, hc2, (RD.out.chg hst.out (.inr Z1.out)).more (by have := Z1.out; omega) hst.out.size, H15.out, S2.out.chg hst.out (.inl hg), chg_new K2.out (Nat.le_refl _) _⟩
  · have hr0b : (r == 0) = false := by simpa using hr0
    go_wp2_with fail
    refine (l01Next g 5 _ s1 (by omega)).mono ?_
    rintro e u2 ⟨rn, rfl, ⟨rn0, rn1⟩, s2, k2⟩
    have rn2 := rn1 (by omega)
    obtain ⟨n, rfl⟩ : ∃ n : Nat, rn = n := ⟨rn.toNat, by omega⟩
    have hn : n ≤ 4 := by omega
    have A2 := Lib.hid (A1.out.far k2 (by omega))
    have K2 := Lib.hid (K1.out.trans k2)
    have Z2 := Lib.hid (Nat.le_trans Z1.out k2.size)
    clear rn1 rn2 k2 A1 K1 Z1 s1 rn0
    go_wp2_with fail
    refine (l01ShuffledF g _ s2).mono ?_
    rintro e u3 ⟨A, cc, zs, rfl, hcc, hfew, ho1, s3, k3⟩
    obtain ⟨sb, cs, rfl, sb1, sb2, _⟩ := ho1.2 (by omega)
    have A3 := Lib.hid (A2.out.far k3 (by omega))
    have K3 := Lib.hid (K2.out.trans k3)
    have Z3 := Lib.hid (Nat.le_trans Z2.out k3.size)
    have hgz : Hid (g + 1 ≤ u2.heap.size) := s2.lt
    have HR3 := Lib.hid ho1.rd
    have HF := Lib.hid hfew
    have HZL := Lib.hid ho1.1
    clear k3 A2 K2 Z2 s2 ho1 hfew
    go_wp2_with fail
    refine (l01Next g 2 _ s3 (by omega)).mono ?_
    rintro e u4 ⟨r4, rfl, ⟨r40, _⟩, s4, k4⟩
    have A4 := Lib.hid (A3.out.far k4 (by omega))
    have K4 := Lib.hid (K3.out.trans k4)
    have Z4 := Lib.hid (Nat.le_trans Z3.out k4.size)
    have HR4 := Lib.hid (HR3.out.chg k4 (.inr hgz.out))
    have HT4 := Lib.hid (k4.size)
    clear k4 A3 K3 Z3 s3 HR3
    by_cases hr4 : r4 = 0
    · subst hr4
      have S4 := Lib.hid s4
      have hmade := Lib.hid (OwnV.made u4 (Nat.le_refl _))
      have hb0 := Lib.hid ((Below.refl u4.heap.size u4).alloc (Nat.le_refl _) (.cells #[] 2))
      have HZ5 := HZL.out
      clear s4
      go_wp2_with fail
      go_loopw [5, 6] (fun v i wr => ∃ k : Nat, k ≤ 52 ∧ i = .int .i64 k ∧ OwnV wr u4.heap.size v ((zs.take k).filter fun z => decide (z < 26)) ∧ Below u4.heap.size u4 wr) (fun _ i _ => 52 - (intOf i).toNat)
      case atStart => exact ⟨0, by omega, rfl, hmade.out, hb0.out⟩
      case round =>
        clear hmade hb0
        obtain ⟨k, hk, rfl, ho, hb⟩ := hrel
        by_cases hlt : k < 52
        · have hkl : (k : Int) < 52 := by omega
          obtain ⟨b1, off1, e1, _, _, hc1⟩ := (HR4.out.below hb HT4.out).2 (by omega)
          injection e1 with e1
          injection e1 with e2 e3 _
          subst e2; subst e3
          have hcell := hc1 k hlt
          rw [Nat.zero_add] at hcell
          have hst : Hid ((zs.take (k + 1)).filter (fun z => decide (z < 26)) = (zs.take k).filter (fun z => decide (z < 26)) ++ if zs.getD k 0 < 26 then [zs.getD k 0] else []) := by
            show _ = _
            rw [List.take_succ_eq_append_getElem (by omega), List.filter_append, getD_at _ _ (by omega)]
            by_cases hz : zs[k] < 26 <;> simp [hz]
          have hll : ((zs.take k).filter fun z => decide (z < 26)).length ≤ 1048576 := by have := List.length_filter_le (fun z : Int => decide (z < 26)) (zs.take k); have := List.length_take_le k zs; omega
          have hsz := hb.size
          clear hc1
          generalize zs.getD k 0 = z at hcell hst
          generalize (zs.take k).filter (fun z => decide (z < 26)) = fl at ho hst hll
          by_cases hz : z < 26
          · have HE : Hid ((zs.take (k + 1)).filter (fun z => decide (z < 26)) = fl ++ [z]) := by show _ = _; rw [hst.out, if_pos hz]
            clear hst
            go_wp2_with (at_builtin; refine wpList_push rfl (.tmp 33) (.tmp 38) rfl u4.heap.size _ fl (by rfl) ho z (by rfl) hll hsz ?_; intro v3 w3 o3 b3)
            rw [← HE.out] at o3
            go_roundw
            case rel => exact ⟨k + 1, by omega, by go_num, o3, hb.trans b3⟩
            case measure => simp [intOf]; omega
          · have HE : Hid ((zs.take (k + 1)).filter (fun z => decide (z < 26)) = fl) := by show _ = _; rw [hst.out, if_neg hz, List.append_nil]
            rw [← HE.out] at ho
            clear hst HE
            go_wp2_with fail
            go_roundw
            case rel => exact ⟨k + 1, by omega, by go_num, ho, hb⟩
            case measure => simp [intOf]; omega
        · have hkl : ¬ (k : Int) < 52 := by omega
          have hfl : ((zs.take k).filter fun z => decide (z < 26)).length = 26 := by
            rw [List.take_of_length_le (by omega), ← List.countP_eq_length_filter]; exact HF.out
          obtain ⟨u5, hu5⟩ : ∃ u5, u5 = wr := ⟨wr, rfl⟩
          subst hu5
          obtain ⟨A5, c5, rfl, hc5, _, own5⟩ := ho.form_at hfl
          obtain ⟨sb5, _, rfl, _, _, _⟩ := own5.2 (by omega)
          obtain ⟨m, hm⟩ : ∃ m : Nat, m = 26 := ⟨_, rfl⟩
          have R1 := Lib.hid (show BoxAt u5 w.heap.size (.slice none 0 0) 36 from (hb.block _ (by have := Z4.out; omega)).trans A4.out)
          have k1 := Lib.hid (K4.out.trans (Chg.of_below (hb.mono (by have := K4.out.size; omega)) g (g + 1)))
          have z1 := Lib.hid (Nat.le_trans Z4.out hb.size)
          have HS1 := Lib.hid (S4.out.under hb (by have := S4.out.lt; omega))
          have hg1 := Lib.hid HS1.out.lt
          have HR : Hid (Rd u5 u4.heap.size u5.heap.size (some ⟨sb5, 0, none⟩) m ((zs.take k).filter fun z => decide (z < 26))) := by show Rd _ _ _ _ _ _; rw [hm]; exact own5.rd
          have hm26 : 26 ≤ m := by omega
          have hmc : m ≤ c5 := by omega
          generalize (zs.take k).filter (fun z => decide (z < 26)) = fl at HR
          clear A4 K4 Z4 S4 HR4 HF HZL ho hb own5 hfl hm
          go_wp2_with fail
          have Q0 := Lib.hid (BoxAt.new u5 (.slice none 0 0) 36 rfl)
          have B0 := Lib.hid ((Below.refl u5.heap.size u5).alloc (Nat.le_refl _) (.cells #[.slice none 0 0] 36))
          have hz2 : Hid ((u5.alloc (.cells #[.slice none 0 0] 36)).heap.size = u5.heap.size + 1) := by show _ = _; simp
          generalize u5.alloc (.cells #[.slice none 0 0] 36) = w2 at Q0 B0 hz2
          generalize hq : u5.heap.size = q at Q0 B0 hz2
          have HQ := Lib.hid hq
          clear hq
          go_loopw [8] (fun i wr => ∃ (k : Nat) (v : Value) (ys : List (List Int)), k ≤ 4 ∧ i = .int .i64 k ∧ Hid (BoxAt wr q v 36) ∧ OwnVR wr (q + 1) v ys ∧ Hid (ys.length = k) ∧ Hid (∀ j, j < k → (ys.getD j []).length = n) ∧ Hid (Below q u5 wr) ∧ q + 1 ≤ wr.heap.size) (fun i _ => 4 - (intOf i).toNat)
          case atStart => exact ⟨0, _, [], by omega, rfl, Q0.out, OwnVR.nil_ _ _, rfl, fun j hj => by omega, B0.out, by have := hz2.out; omega⟩
          case round =>
            clear Q0 B0 hz2
            obtain ⟨k, v, ys, hk, rfl, hbox, ho, hlen, hrow, hb, hs3⟩ := hrel
            by_cases hlt : k < 4
            · have hkl : (k : Int) < 4 := by omega
              obtain ⟨P, hP⟩ : ∃ P : Nat, P = k * n := ⟨_, rfl⟩
              have hP39 : P ≤ 12 := by rw [hP]; exact Nat.le_trans (Nat.mul_le_mul (show k ≤ 3 by omega) hn) (by omega)
              have hPI : (k : Int) * (n : Int) = (P : Int) := by rw [hP]; exact (Int.natCast_mul k n).symm
              have wf1 : IntKind.i64.wrap ((k : Int) * (n : Int)) = (P : Int) := by rw [hPI]; exact IntWalk.i64_in _ (by omega)
              have wf2 : IntKind.i64.wrap ((P : Int) + (n : Int)) = (P : Int) + (n : Int) := IntWalk.i64_in _ (by omega)
              have hPn : P + n ≤ m := by
                have : k * n + n = (k + 1) * n := by rw [Nat.succ_mul]
                have h2 : (k + 1) * n ≤ 4 * 4 := Nat.mul_le_mul (by omega) hn
                omega
              have hPc : (P : Int) + (n : Int) ≤ (c5 : Int) := by omega
              have hP0 : (0 : Int) ≤ (P : Int) := by omega
              have hPle : (P : Int) ≤ (P : Int) + (n : Int) := by omega
              have hcP : ¬ (c5 = P) := by omega
              have hn1 : ((P : Int) + (n : Int) - (P : Int)).toNat = n := by omega
              have hn2 : ((P : Int) + (n : Int)).toNat = P + n := by omega
              have hn3 : P + n - P = n := by omega
              clear hP hPI
              have hrd := ((HR.out.part hPn).below hb.out (by have := HQ.out; omega)).still (Chg.drewN wr 1 0 0)
              have hCall := Lib.hid (l01Sorted _ n (c5 - P) _ _ _ _ hrd (by omega))
              have hb2 := hbox.out.c
              clear hrd
              go_wp2
              go_region_law
                (first
                  | (go_simp; go_at_call 96; refine hCall.out.mono ?_; rintro e w3 ⟨v1, zs1, rfl, hl1, o1, b1⟩; have HL1 := Lib.hid hl1; clear hl1; obtain ⟨D, c1, rfl, hc1, hp1, ou5⟩ := o1.form; have hg1 : Below wr.heap.size wr w3 := ((Below.refl _ _).drew).trans b1; have kk1 := box_still hb2 (Chg.of_below hg1 0 0); have kb1 := fun o => box_still kk1 (Chg.of_alloc w3 o 0 0))
                  | (refine step_of_wp rfl (wp_pushR (w := wr) (w1 := w3) (.tmp 47) (.tmp 59) rfl (q + 1) v ys (by rfl) ho (fun p _ hp => hg1.block p hp) hg1.size D c1 zs1 ou5 hc1 hp1 (by rfl) (by have := hlen.out; omega) hs3 ?_); intro v2 w4 o2 b2; obtain ⟨A2, c2', rfl, _, _⟩ := o2.own; have HBx := Lib.hid (show BoxAt w4 q v 36 from ((b2.block q (by omega)).trans (hg1.block q (by omega))).trans hbox.out); have kk4 := HBx.out.c; have hf4 := HBx.out.f))
              all_goals
                have e2 : (ys ++ [zs1]).length = ys.length + 1 := by simp
                have hl2 : Hid ((ys ++ [zs1]).length = k + 1) := by show _ = _; rw [List.length_append, hlen.out]; rfl
                rw [e2] at o2
                have hfin := OwnVR.kept (w' := w4.setCell ⟨q, 0, none⟩ (.slice A2 (ys.length + 1) c2')) o2 (fun p hp _ => Below.heap_setCell _ _ _ _ (by show p ≠ q; omega)) (by simp [World.setCell])
                have hcf := Lib.hid ((hb.out.trans (hg1.mono (by omega))).trans (Below.setAt (i := 0) (u := .slice A2 (ys.length + 1) c2') (g := q) (b2.mono (Nat.le_succ q)) (Nat.le_refl _)))
                have hsf : q + 1 ≤ (w4.setCell ⟨q, 0, none⟩ (.slice A2 (ys.length + 1) c2')).heap.size := by have := hg1.size; have := b2.size; simp [World.setCell]; omega
                have hbx2 : Hid (BoxAt (w4.setCell ⟨q, 0, none⟩ (.slice A2 (ys.length + 1) c2')) q (.slice A2 (ys.length + 1) c2') 36) := by show _ = _; have := HBx.out; unfold BoxAt at this; simp [World.setCell, Array.getElem?_modify, this]
                have hrow2 : Hid (∀ j, j < k + 1 → ((ys ++ [zs1]).getD j []).length = n) := fun j hj => by
                  rw [getD_snoc, hlen.out]
                  by_cases e : j < k
                  · rw [if_pos e]; exact hrow.out j e
                  · rw [if_neg e, if_pos (by omega)]; exact HL1.out
                clear o2 b2 hg1 hb ho kk1 kk4 kb1 hb2 o1 b1 ou5 hf4 HBx hbox
                go_wp2
                go_roundw
                case rel => exact ⟨k + 1, _, _, by omega, by go_num, hbx2, hfin, hl2, hrow2, hcf, hsf⟩
                case measure => simp [intOf]; omega
            · obtain rfl : k = 4 := by omega
              obtain ⟨b', c', rfl, hc1, hc2, hown⟩ := ho.own4 hlen.out
              have p1 := hbox.out.c
              have R4 := Lib.hid (show BoxAt wr w.heap.size (.slice none 0 0) 36 from (hb.out.block _ (by have := HQ.out; have := z1.out; omega)).trans R1.out)
              have p0 := R4.out.c
              have f0 := R4.out.f
              have hret := fun u => R4.out.ret u
              have hz := Lib.hid (show w.heap.size + 1 ≤ q by have := HQ.out; have := z1.out; omega)
              have hst : Hid (Chg wr (wr.setCell ⟨w.heap.size, 0, none⟩ (.slice (some ⟨b', 0, none⟩) 4 c')) w.heap.size (w.heap.size + 1)) := (Chg.refl _ _ _).store (Nat.le_refl _) (by show w.heap.size < w.heap.size + 1; omega) _
              have hS4 := Lib.hid (HS1.out.under hb.out (by have := HQ.out; have := hg1.out; omega))
              have hch4 := Lib.hid ((k1.out.trans (Chg.of_below (hb.out.mono (by have := HQ.out; omega)) _ _)))
              have HO := Lib.hid hown
              clear ho hown hb
              go_wp2
              (try simp only [Exit.inBlock, Exit.then])
              refine bodyPost_ret (v := .agg #[.slice (some ⟨b', 0, none⟩) 4 c']) (by simp [results, Try.results58, go_sem, hret]; try rfl) rfl ?_
              have := hz.out
              refine ⟨_, 4, c', ys, rfl, by omega, hc1, ((HO.out.chg hst.out (.inr (by omega))).more (by omega) hst.out.size).rd, fun j => ?_, hS4.out.chg hst.out (.inl hg), ?_⟩
              · by_cases hj : j < 4
                · rw [hrow.out j hj]; omega
                · rw [List.getD_eq_getElem?_getD, List.getElem?_eq_none (by have := hlen.out; omega)]; simp
              · exact chg_new hch4.out (Nat.le_refl _) _
    · have hr4b : (r4 == 0) = false := by simpa using hr4
      obtain ⟨m, hm⟩ : ∃ m : Nat, m = 52 := ⟨_, rfl⟩
      have R1 := A4
      have k1 := K4
      have z1 := Z4
      have HS1 := Lib.hid s4
      have hg1 := Lib.hid s4.lt
      have HR : Hid (Rd u4 u2.heap.size u4.heap.size (some ⟨sb, 0, none⟩) m zs) := by show Rd _ _ _ _ _ _; rw [hm]; exact HR4.out.more (Nat.le_refl _) HT4.out
      have hm26 : 26 ≤ m := by omega
      have hmc : m ≤ cc := by omega
      clear A4 K4 Z4 s4 HR4 HF HZL
      go_wp2_with fail
      have Q0 := Lib.hid (BoxAt.new u4 (.slice none 0 0) 36 rfl)
      have B0 := Lib.hid ((Below.refl u4.heap.size u4).alloc (Nat.le_refl _) (.cells #[.slice none 0 0] 36))
      have hz2 : Hid ((u4.alloc (.cells #[.slice none 0 0] 36)).heap.size = u4.heap.size + 1) := by show _ = _; simp
      generalize u4.alloc (.cells #[.slice none 0 0] 36) = w2 at Q0 B0 hz2
      generalize hq : u4.heap.size = q at Q0 B0 hz2
      have HQ := Lib.hid hq
      clear hq
      go_loopw [8] (fun i wr => ∃ (k : Nat) (v : Value) (ys : List (List Int)), k ≤ 4 ∧ i = .int .i64 k ∧ Hid (BoxAt wr q v 36) ∧ OwnVR wr (q + 1) v ys ∧ Hid (ys.length = k) ∧ Hid (∀ j, j < k → (ys.getD j []).length = n) ∧ Hid (Below q u4 wr) ∧ q + 1 ≤ wr.heap.size) (fun i _ => 4 - (intOf i).toNat)
      case atStart => exact ⟨0, _, [], by omega, rfl, Q0.out, OwnVR.nil_ _ _, rfl, fun j hj => by omega, B0.out, by have := hz2.out; omega⟩
      case round =>
        clear Q0 B0 hz2
        obtain ⟨k, v, ys, hk, rfl, hbox, ho, hlen, hrow, hb, hs3⟩ := hrel
        by_cases hlt : k < 4
        · have hkl : (k : Int) < 4 := by omega
          obtain ⟨P, hP⟩ : ∃ P : Nat, P = k * n := ⟨_, rfl⟩
          have hP39 : P ≤ 12 := by rw [hP]; exact Nat.le_trans (Nat.mul_le_mul (show k ≤ 3 by omega) hn) (by omega)
          have hPI : (k : Int) * (n : Int) = (P : Int) := by rw [hP]; exact (Int.natCast_mul k n).symm
          have wf1 : IntKind.i64.wrap ((k : Int) * (n : Int)) = (P : Int) := by rw [hPI]; exact IntWalk.i64_in _ (by omega)
          have wf2 : IntKind.i64.wrap ((P : Int) + (n : Int)) = (P : Int) + (n : Int) := IntWalk.i64_in _ (by omega)
          have hPn : P + n ≤ m := by
            have : k * n + n = (k + 1) * n := by rw [Nat.succ_mul]
            have h2 : (k + 1) * n ≤ 4 * 4 := Nat.mul_le_mul (by omega) hn
            omega
          have hPc : (P : Int) + (n : Int) ≤ (cc : Int) := by omega
          have hP0 : (0 : Int) ≤ (P : Int) := by omega
          have hPle : (P : Int) ≤ (P : Int) + (n : Int) := by omega
          have hcP : ¬ (cc = P) := by omega
          have hn1 : ((P : Int) + (n : Int) - (P : Int)).toNat = n := by omega
          have hn2 : ((P : Int) + (n : Int)).toNat = P + n := by omega
          have hn3 : P + n - P = n := by omega
          clear hP hPI
          have hrd := ((HR.out.part hPn).below hb.out (by have := HQ.out; omega)).still (Chg.drewN wr 1 0 0)
          have hCall := Lib.hid (l01Sorted _ n (cc - P) _ _ _ _ hrd (by omega))
          have hb2 := hbox.out.c
          clear hrd
          go_wp2
          go_region_law
            (first
              | (go_simp; go_at_call 96; refine hCall.out.mono ?_; rintro e w3 ⟨v1, zs1, rfl, hl1, o1, b1⟩; have HL1 := Lib.hid hl1; clear hl1; obtain ⟨D, c1, rfl, hc1, hp1, ou4⟩ := o1.form; have hg1 : Below wr.heap.size wr w3 := ((Below.refl _ _).drew).trans b1; have kk1 := box_still hb2 (Chg.of_below hg1 0 0); have kb1 := fun o => box_still kk1 (Chg.of_alloc w3 o 0 0))
              | (refine step_of_wp rfl (wp_pushR (w := wr) (w1 := w3) (.tmp 47) (.tmp 59) rfl (q + 1) v ys (by rfl) ho (fun p _ hp => hg1.block p hp) hg1.size D c1 zs1 ou4 hc1 hp1 (by rfl) (by have := hlen.out; omega) hs3 ?_); intro v2 w4 o2 b2; obtain ⟨A2, c2', rfl, _, _⟩ := o2.own; have HBx := Lib.hid (show BoxAt w4 q v 36 from ((b2.block q (by omega)).trans (hg1.block q (by omega))).trans hbox.out); have kk4 := HBx.out.c; have hf4 := HBx.out.f))
          all_goals
            have e2 : (ys ++ [zs1]).length = ys.length + 1 := by simp
            have hl2 : Hid ((ys ++ [zs1]).length = k + 1) := by show _ = _; rw [List.length_append, hlen.out]; rfl
            rw [e2] at o2
            have hfin := OwnVR.kept (w' := w4.setCell ⟨q, 0, none⟩ (.slice A2 (ys.length + 1) c2')) o2 (fun p hp _ => Below.heap_setCell _ _ _ _ (by show p ≠ q; omega)) (by simp [World.setCell])
            have hcf := Lib.hid ((hb.out.trans (hg1.mono (by omega))).trans (Below.setAt (i := 0) (u := .slice A2 (ys.length + 1) c2') (g := q) (b2.mono (Nat.le_succ q)) (Nat.le_refl _)))
            have hsf : q + 1 ≤ (w4.setCell ⟨q, 0, none⟩ (.slice A2 (ys.length + 1) c2')).heap.size := by have := hg1.size; have := b2.size; simp [World.setCell]; omega
            have hbx2 : Hid (BoxAt (w4.setCell ⟨q, 0, none⟩ (.slice A2 (ys.length + 1) c2')) q (.slice A2 (ys.length + 1) c2') 36) := by show _ = _; have := HBx.out; unfold BoxAt at this; simp [World.setCell, Array.getElem?_modify, this]
            have hrow2 : Hid (∀ j, j < k + 1 → ((ys ++ [zs1]).getD j []).length = n) := fun j hj => by
              rw [getD_snoc, hlen.out]
              by_cases e : j < k
              · rw [if_pos e]; exact hrow.out j e
              · rw [if_neg e, if_pos (by omega)]; exact HL1.out
            clear o2 b2 hg1 hb ho kk1 kk4 kb1 hb2 o1 b1 ou4 hf4 HBx hbox
            go_wp2
            go_roundw
            case rel => exact ⟨k + 1, _, _, by omega, by go_num, hbx2, hfin, hl2, hrow2, hcf, hsf⟩
            case measure => simp [intOf]; omega
        · obtain rfl : k = 4 := by omega
          obtain ⟨b', c', rfl, hc1, hc2, hown⟩ := ho.own4 hlen.out
          have p1 := hbox.out.c
          have R4 := Lib.hid (show BoxAt wr w.heap.size (.slice none 0 0) 36 from (hb.out.block _ (by have := HQ.out; have := z1.out; omega)).trans R1.out)
          have p0 := R4.out.c
          have f0 := R4.out.f
          have hret := fun u => R4.out.ret u
          have hz := Lib.hid (show w.heap.size + 1 ≤ q by have := HQ.out; have := z1.out; omega)
          have hst : Hid (Chg wr (wr.setCell ⟨w.heap.size, 0, none⟩ (.slice (some ⟨b', 0, none⟩) 4 c')) w.heap.size (w.heap.size + 1)) := (Chg.refl _ _ _).store (Nat.le_refl _) (by show w.heap.size < w.heap.size + 1; omega) _
          have hS4 := Lib.hid (HS1.out.under hb.out (by have := HQ.out; have := hg1.out; omega))
          have hch4 := Lib.hid ((k1.out.trans (Chg.of_below (hb.out.mono (by have := HQ.out; omega)) _ _)))
          have HO := Lib.hid hown
          clear ho hown hb
          go_wp2
          (try simp only [Exit.inBlock, Exit.then])
          refine bodyPost_ret (v := .agg #[.slice (some ⟨b', 0, none⟩) 4 c']) (by simp [results, Try.results58, go_sem, hret]; try rfl) rfl ?_
          have := hz.out
          refine ⟨_, 4, c', ys, rfl, by omega, hc1, ((HO.out.chg hst.out (.inr (by omega))).more (by omega) hst.out.size).rd, fun j => ?_, hS4.out.chg hst.out (.inl hg), ?_⟩
          · by_cases hj : j < 4
            · rw [hrow.out j hj]; omega
            · rw [List.getD_eq_getElem?_getD, List.getElem?_eq_none (by have := hlen.out; omega)]; simp
          · exact chg_new hch4.out (Nat.le_refl _) _

end Go.Proofs.Yteojdlacdnfgiaa.Lib1
