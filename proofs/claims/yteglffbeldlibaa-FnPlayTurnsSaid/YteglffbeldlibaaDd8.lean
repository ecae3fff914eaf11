/- The draws of a deck, of a hand, of a deal once more, with what is drawn: a deal. (Written by wip/gen8s.py out of XDraws and XDraw3.) -/
import Derived.Test.YteglffbeldlibaaDraw3
import Derived.Test.YteglffbeldlibaaPp8
namespace Go.Proofs.Yteglffbeldlibaa.Lib1
open Go.RowKit
set_option maxRecDepth 100000

/-- The deck in order. -/
def deckL (k : Nat) : List Int := (List.range k).map fun i : Nat => (i : Int)
theorem deckL_succ (k : Nat) : deckL (k + 1) = deckL k ++ [(k : Int)] := by simp [deckL, List.range_succ]
theorem deckL_nodup (k : Nat) : (deckL k).Nodup := by
  unfold deckL
  exact List.Pairwise.map _ (fun a b (h : a ≠ b) => (show (a : Int) ≠ (b : Int) by omega)) List.nodup_range
theorem deckL_mem {k : Nat} {z : Int} (h : z ∈ deckL k) : 0 ≤ z ∧ z < (k : Int) := by
  unfold deckL at h
  obtain ⟨i, hi, rfl⟩ := List.mem_map.1 h
  have := List.mem_range.1 hi
  omega
theorem swap_perm8 (l : List Int) {q r : Nat} (hq : q < l.length) (hr : r < l.length) : ((l.set q (l.getD r 0)).set r (l.getD q 0)).Perm l := by
  rw [getD_at _ _ hq, getD_at _ _ hr]
  exact List.set_set_perm hq hr
/-- The deck is drawn in some order. -/
def DrewL8 (g : Nat) (w : World) (e : Ending) (w' : World) : Prop :=
  ∃ A c zs, e = .returned (.slice A 52 c) ∧ 52 ≤ c ∧ Own w' w.heap.size w'.heap.size A 52 zs ∧ zs.Perm (deckL 52) ∧ Src w' g ∧ Chg w w' g (g + 1)
/-- A list in order is handed back. -/
def RetN8 (w : World) (zs : List Int) (e : Ending) (w' : World) : Prop := ∃ v ys, e = .returned v ∧ ys.Perm zs ∧ ys.Pairwise (· < ·) ∧ OwnV w' w.heap.size v ys ∧ Below w.heap.size w w'
/-- A deal is drawn. -/
def DrewD8 (g n : Nat) (w : World) (e : Ending) (w' : World) : Prop :=
  ∃ b c zss, e = .returned (.agg #[.slice (some ⟨b, 0, none⟩) 4 c]) ∧ 4 ≤ c ∧ c ≤ maxLen ∧ OwnR w' w.heap.size w'.heap.size (some ⟨b, 0, none⟩) 4 zss ∧ (∀ j, j < 4 → (zss.getD j []).length = n) ∧ dealB zss = true ∧ Src w' g ∧ Chg w w' g (g + 1)
theorem drawn_deal8 {n : Nat} {ys : List (List Int)} {zs : List Int} (h4 : ys.length = 4) (hl : ∀ j, j < 4 → (ys.getD j []).length = n) (hn : n ≤ 13) (hnd : zs.Nodup) (hp : zs.Perm (deckL 52)) (hf : ys.flatten.Perm (zs.take (4 * n))) (hpw : ∀ r ∈ ys, r.Pairwise (· < ·)) : dealB ys = true := by
  refine (deal_iff ys).2 ⟨h4, fun t ht => ⟨(hand_iff _).2 ⟨by rw [hl t ht]; exact hn, hpw _ (by rw [getD_row (by omega)]; exact List.getElem_mem _), fun z hz => ?_⟩, by rw [hl t ht, hl 0 (by omega)]⟩, (hf.nodup_iff).2 (hnd.sublist (List.take_sublist _ _))⟩
  have h1 : z ∈ ys.flatten := List.mem_flatten.2 ⟨ys.getD t [], by rw [getD_row (show t < ys.length by omega)]; exact List.getElem_mem _, hz⟩
  have h2 := hp.mem_iff.1 ((List.take_sublist _ _).mem (hf.mem_iff.1 h1))
  have := deckL_mem h2
  omega

set_option maxHeartbeats 1600000 in
/-- spec.l01Shuffled -/
theorem l01Shuffled8 (g : Nat) (w : World) (h : Src w g) :
    Calls Try.prog 168 #[.pointer (some ⟨g, 0, none⟩)] w (DrewL8 g w) := by
  have hg := h.lt
  go_enter Try.func168, Try.ntmps168
  go_wp2
  go_loopw [3, 4] (fun v i wr => ∃ (k : Nat) (zs : List Int), k ≤ 52 ∧ i = .int .i64 k ∧ Hid (zs.length = k) ∧ Hid (zs = deckL k) ∧ OwnV wr w.heap.size v zs ∧ Below w.heap.size w wr) (fun _ i _ => 52 - (intOf i).toNat)
  case atStart => exact ⟨0, [], by omega, rfl, rfl, rfl, OwnV.made w (Nat.le_refl _), (Below.refl _ _).alloc (Nat.le_refl _) _⟩
  case round =>
    obtain ⟨k, zs, hk, rfl, hl, hdk, ho, hb⟩ := hrel
    by_cases hlt : k < 52
    · have hltI : (k : Int) < 52 := by omega
      have hlen : zs.length ≤ 1048576 := by rw [hl.out]; omega
      have hsize := hb.size
      go_wp2_with (at_builtin; refine wpList_push rfl _ _ rfl w.heap.size _ _ rfl ho (k : Int) rfl hlen hsize ?_; intro v' w1 ho1 hb1)
      have hl1 : Hid ((zs ++ [(k : Int)]).length = k + 1) := by show _ = _; rw [List.length_append, hl.out]; rfl
      have hb2 := hb.trans hb1
      have hdk1 : Hid (zs ++ [(k : Int)] = deckL (k + 1)) := by show _ = _; rw [hdk.out, deckL_succ]
      clear ho hb hb1
      go_roundw
      case rel => exact ⟨k + 1, _, by omega, by go_num, hl1, hdk1, ho1, hb2⟩
      case measure => simp [intOf]; omega
    · have hltI : ¬ (k : Int) < 52 := by omega
      obtain ⟨A, c, rfl, hc, _, hown⟩ := ho.form_at (show zs.length = 52 by rw [hl.out]; omega)
      have hs1 := h.below hb
      have hch := Chg.of_below hb g (g + 1)
      have hp0 : Hid (zs.Perm (deckL 52)) := by show List.Perm _ _; rw [hdk.out, show k = 52 by omega]
      clear ho hl
      generalize hH : wr.heap.size = H at hown
      have HH := Lib.hid hH
      clear hH
      go_wp2
      go_loopw [5] (fun i wr => ∃ (q : Nat) (ys : List Int), q ≤ 51 ∧ i = .int .i64 q ∧ Own wr w.heap.size H A 52 ys ∧ Hid (ys.Perm (deckL 52)) ∧ Src wr g ∧ Chg w wr g (g + 1) ∧ Hid (H ≤ wr.heap.size)) (fun i _ => (intOf i).toNat)
      case atStart => exact ⟨51, zs, by omega, rfl, hown, hp0, hs1, hch, Nat.le_of_eq HH.out.symm⟩
      case round =>
        obtain ⟨q, ys, hq, rfl, ho2, hpm, hs2, hc2, hz2⟩ := hrel
        by_cases hq0 : 0 < q
        · have hq0I : (0 : Int) < (q : Int) := by omega
          have hgH : g + 1 ≤ w.heap.size := hg
          go_wp2_with fail
          refine (l01Next g ((q : Int) + 1) _ hs2 (by omega)).mono ?_
          rintro e w3 ⟨r, rfl, ⟨r0, r1⟩, hs3, hc3⟩
          have r2 := r1 (by omega)
          have ho3 := ho2.chg hc3 (.inr hgH)
          have hch3 := hc2.trans hc3
          have hz3 : Hid (H ≤ w3.heap.size) := Nat.le_trans hz2.out hc3.size
          clear ho2 hc2 hc3 hs2 hz2
          obtain ⟨b, cs, rfl, hb1, hb2, hbk, hcs⟩ := ho3.2 (by omega)
          have cq : w3.cell? ⟨b, q, none⟩ = some (.int .i64 (ys.getD q 0)) := by rw [cell_of_row w3 b q cs _ _ hbk]; exact hcs q (by omega)
          have cr : w3.cell? ⟨b, r.toNat, none⟩ = some (.int .i64 (ys.getD r.toNat 0)) := by rw [cell_of_row w3 b r.toNat cs _ _ hbk]; exact hcs r.toNat (by omega)
          have fq : w3.frozen? ⟨b, q, none⟩ = false := by simp [World.frozen?, hbk]
          have fr : w3.frozen? ⟨b, r.toNat, none⟩ = false := by simp [World.frozen?, hbk]
          have ow := (ho3.set (k := q) (by omega) (ys.getD r.toNat 0)).set (k := r.toNat) (by omega) (ys.getD q 0)
          have hpm2 := Lib.hid ((swap_perm8 ys (show q < ys.length by rw [ho3.1]; omega) (show r.toNat < ys.length by rw [ho3.1]; omega)).trans hpm.out)
          generalize ys.getD q 0 = y at cq ow hpm2
          generalize ys.getD r.toNat 0 = y' at cr ow hpm2
          have hsr : Hid (Src ((w3.setCell ⟨b, q, none⟩ (.int .i64 y')).setCell ⟨b, r.toNat, none⟩ (.int .i64 y)) g) := by
            have e1 := Src_far (i := q) hs3 (show g < b by omega) (.int .i64 y')
            exact Src_far (i := r.toNat) e1 (show g < b by omega) (.int .i64 y)
          have hchg : Chg w ((w3.setCell ⟨b, q, none⟩ (.int .i64 y')).setCell ⟨b, r.toNat, none⟩ (.int .i64 y)) g (g + 1) := chg_new (chg_new hch3 hb1 _) hb1 _
          have hz4 : Hid (H ≤ ((w3.setCell ⟨b, q, none⟩ (.int .i64 y')).setCell ⟨b, r.toNat, none⟩ (.int .i64 y)).heap.size) := by
            show _ ≤ _
            simpa [World.setCell] using hz3.out
          clear hbk hcs ho3 hch3 hs3 hz3 r1
          by_cases hrq : r.toNat = q
          · obtain rfl : r = (q : Int) := by omega
            rw [Int.toNat_natCast] at ow hsr hchg hz4 cr fr hpm2
            obtain rfl : y' = y := by rw [cq] at cr; injection cr with cr; injection cr with _ cr; exact cr.symm
            clear cr fr
            go_wp2_with fail
            go_roundw
            case rel => exact ⟨q - 1, _, by omega, by rw [show ((q - 1 : Nat) : Int) = (q : Int) - 1 by omega], ow, hpm2, hsr, hchg, hz4⟩
            case measure => simp [intOf]; omega
          · go_wp2_with fail
            go_roundw
            case rel => exact ⟨q - 1, _, by omega, by rw [show ((q - 1 : Nat) : Int) = (q : Int) - 1 by omega], ow, hpm2, hsr, hchg, hz4⟩
            case measure => simp [intOf]; omega
        · have hq0I : ¬ (0 : Int) < (q : Int) := by omega
          go_wp2_with fail
          go_ret
          exact ⟨A, c, ys, rfl, hc, ho2.more (Nat.le_refl _) hz2.out, hpm.out, hs2, hc2⟩

set_option maxHeartbeats 1000000 in
/-- spec.l01Sorted -/
theorem l01Sorted8 (A : Option Addr) (n c : Nat) (zs : List Int) (lo hi : Nat) (w : World) (h : Rd w lo hi A n zs) (hn : n ≤ 1048000) (hnd : zs.Nodup) :
    Calls Try.prog 169 #[.slice A n c] w (RetN8 w zs) := by
  have ha := h.all
  have hzl := Lib.hid h.1
  have HND := Lib.hid hnd
  clear hnd
  clear h
  go_enter Try.func169, Try.ntmps169
  go_wp2
  go_loopw [3, 4] (fun v i wr => ∃ (k : Nat) (ys : List Int), k ≤ n ∧ i = .int .i64 k ∧ Hid (ys.length = k) ∧ Hid (ys.Perm (zs.take k)) ∧ Hid (ys.Pairwise (· < ·)) ∧ OwnV wr w.heap.size v ys ∧ Below w.heap.size w wr) (fun _ i _ => n - (intOf i).toNat)
  case atStart => exact ⟨0, [], Nat.zero_le _, rfl, rfl, by simp [Hid], List.Pairwise.nil, OwnV.made w (Nat.le_refl _), (Below.refl _ _).alloc (Nat.le_refl _) _⟩
  case round =>
    obtain ⟨k, ys, hk, rfl, hl, hpm, hpw, ho, hb⟩ := hrel
    by_cases hlt : k < n
    · obtain ⟨b, off, rfl, _, _, hc⟩ := (ha.below hb (Nat.le_refl _)).2 (by omega)
      have hck := hc k hlt
      have hkl : (k : Int) < (n : Int) := by omega
      have htk := take_one (cs := zs) (k := k) (by rw [hzl.out]; exact hlt)
      have hzn : Hid (zs.getD k 0 ∉ ys) := fun hm => by
        have h1 := (HND.out.sublist (List.take_sublist (k + 1) zs))
        rw [htk, List.nodup_append] at h1
        exact h1.2.2 _ (hpm.out.mem_iff.1 hm) _ (by simp) rfl
      have htk := Lib.hid htk
      generalize zs.getD k 0 = z at hck htk hzn
      obtain ⟨A', c', rfl, _, _, hown⟩ := ho.form_at hl.out
      clear hc
      go_wp2_with fail
      refine (l01PutV A' k c' z ys _ _ _ hown.rd (by omega)).mono ?_
      rintro e w1 ⟨v1, rfl, ho1, hb1⟩
      have ho2 := ho1.more hb.size
      have hb2 := hb.trans (hb1.mono hb.size)
      have hl2 : Hid ((ins z ys).length = k + 1) := by show _ = _; rw [ins_length, hl.out]
      have hpm2 : Hid ((ins z ys).Perm (zs.take (k + 1))) := by
        show List.Perm _ _
        rw [htk.out]
        exact ((ins_perm z ys).trans (hpm.out.cons z)).trans (List.perm_append_singleton z _).symm
      have hpw2 : Hid ((ins z ys).Pairwise (· < ·)) := ins_pairwise z ys hpw.out hzn.out
      clear ho hb hb1 ho1 hown
      go_wp2_with fail
      go_roundw
      case rel => exact ⟨k + 1, _, by omega, by go_num, hl2, hpm2, hpw2, ho2, hb2⟩
      case measure => simp [intOf]; omega
    · go_wp2
      go_ret
      exact ⟨_, ys, rfl, by have := hpm.out; rwa [List.take_of_length_le (by rw [hzl.out]; omega)] at this, hpw.out, ho, hb⟩

set_option maxHeartbeats 2000000 in
/-- spec.l03Draw -/
theorem l03Draw8 (g n : Nat) (w : World) (h : Src w g) (hn : n ≤ 13) :
    Calls Try.prog 144 #[.pointer (some ⟨g, 0, none⟩), .int .i64 (n : Int)] w (DrewD8 g n w) := by
  have hg := h.lt
  have ca := Lib.hid (Chg.of_alloc w (.cells #[.slice none 0 0] 26) 0 0)
  have R0 := Lib.hid (BoxAt.new w (.slice none 0 0) 26 rfl)
  have hs0 := Lib.hid (h.still ca.out)
  have hz0 : Hid ((w.alloc (.cells #[.slice none 0 0] 26)).heap.size = w.heap.size + 1) := by show _ = _; simp
  go_enter Try.func144, Try.ntmps144
  go_wp2_with fail
  generalize w.alloc (.cells #[.slice none 0 0] 26) = w0 at ca R0 hs0 hz0
  refine (l01Shuffled8 g _ hs0.out).mono ?_
  rintro e w1 ⟨A, cc, zs, rfl, hcc, ho1, hpm, hs1, hch1⟩
  have HPM := Lib.hid hpm
  have HND : Hid zs.Nodup := (hpm.nodup_iff).2 (deckL_nodup 52)
  have HZL := Lib.hid ho1.1
  clear hpm
  obtain ⟨sb, cs, rfl, sb1, sb2, _⟩ := ho1.2 (by omega)
  have R1 := Lib.hid (show BoxAt w1 w.heap.size (.slice none 0 0) 26 from (hch1.block _ (by have := hz0.out; omega) (.inr (by omega))).trans R0.out)
  have k1 := Lib.hid ((ca.out.any g (g + 1)).trans hch1)
  have z1 := Lib.hid (show w.heap.size + 1 ≤ w1.heap.size by have := hch1.size; have := hz0.out; omega)
  have HR := Lib.hid ho1.rd
  have HS1 := Lib.hid hs1
  have hg1 := Lib.hid hs1.lt
  clear ho1 hs1 hch1 hs0 R0
  go_wp2_with fail
  have Q0 := Lib.hid (BoxAt.new w1 (.slice none 0 0) 26 rfl)
  have B0 := Lib.hid ((Below.refl w1.heap.size w1).alloc (Nat.le_refl _) (.cells #[.slice none 0 0] 26))
  have hz2 : Hid ((w1.alloc (.cells #[.slice none 0 0] 26)).heap.size = w1.heap.size + 1) := by show _ = _; simp
  generalize w1.alloc (.cells #[.slice none 0 0] 26) = w2 at Q0 B0 hz2
  generalize hq : w1.heap.size = q at Q0 B0 hz2
  have HQ := Lib.hid hq
  clear hq
  go_loopw [7] (fun i wr => ∃ (k : Nat) (v : Value) (ys : List (List Int)), k ≤ 4 ∧ i = .int .i64 k ∧ Hid (BoxAt wr q v 26) ∧ OwnVR wr (q + 1) v ys ∧ Hid (ys.length = k) ∧ Hid (∀ j, j < k → (ys.getD j []).length = n) ∧ Hid (ys.flatten.Perm (zs.take (k * n))) ∧ Hid (∀ r ∈ ys, r.Pairwise (· < ·)) ∧ Hid (Below q w1 wr) ∧ q + 1 ≤ wr.heap.size) (fun i _ => 4 - (intOf i).toNat)
  case atStart => exact ⟨0, _, [], by omega, rfl, Q0.out, OwnVR.nil_ _ _, rfl, fun j hj => by omega, by show List.Perm _ _; simp, fun _ h => by simp at h, B0.out, by have := hz2.out; omega⟩
  case round =>
    clear Q0 B0 hz2
    obtain ⟨k, v, ys, hk, rfl, hbox, ho, hlen, hrow, hfl, hpw, hb, hs3⟩ := hrel
    by_cases hlt : k < 4
    · have hkl : (k : Int) < 4 := by omega
      obtain ⟨P, hP⟩ : ∃ P : Nat, P = k * n := ⟨_, rfl⟩
      have hP39 : P ≤ 39 := by rw [hP]; exact Nat.le_trans (Nat.mul_le_mul (show k ≤ 3 by omega) hn) (by omega)
      have hPI : (k : Int) * (n : Int) = (P : Int) := by rw [hP]; exact (Int.natCast_mul k n).symm
      have wf1 : IntKind.i64.wrap ((k : Int) * (n : Int)) = (P : Int) := by rw [hPI]; exact IntWalk.i64_in _ (by omega)
      have wf2 : IntKind.i64.wrap ((P : Int) + (n : Int)) = (P : Int) + (n : Int) := IntWalk.i64_in _ (by omega)
      have hPn : P + n ≤ 52 := by
        have : k * n + n = (k + 1) * n := by rw [Nat.succ_mul]
        have h2 : (k + 1) * n ≤ 4 * 13 := Nat.mul_le_mul (by omega) hn
        omega
      have hPc : (P : Int) + (n : Int) ≤ (cc : Int) := by omega
      have hP0 : (0 : Int) ≤ (P : Int) := by omega
      have hPle : (P : Int) ≤ (P : Int) + (n : Int) := by omega
      have hcP : ¬ (cc = P) := by omega
      have hn1 : ((P : Int) + (n : Int) - (P : Int)).toNat = n := by omega
      have hn2 : ((P : Int) + (n : Int)).toNat = P + n := by omega
      have hn3 : P + n - P = n := by omega
      have hfl := Lib.hid (show ys.flatten.Perm (zs.take P) by rw [hP]; exact hfl.out)
      have hP1 : Hid ((k + 1) * n = P + n) := by show _ = _; rw [hP, Nat.succ_mul]
      have hsn : ((zs.drop P).take n).Nodup := (HND.out.sublist (List.drop_sublist P zs)).sublist (List.take_sublist n _)
      clear hP hPI
      have hrd := ((HR.out.part hPn).below hb.out (by have := HQ.out; omega)).still (Chg.drewN wr 1 0 0)
      have hCall := Lib.hid (l01Sorted8 _ n (cc - P) _ _ _ _ hrd (by omega) hsn)
      have hb2 := hbox.out.c
      clear hrd
      go_wp2
      go_region_law
        (first
          | (go_simp; go_at_call 169; refine hCall.out.mono ?_; rintro e w3 ⟨v1, zs1, rfl, hpm1, hpw1, o1, b1⟩; have HL1 := Lib.hid (show zs1.length = n by rw [hpm1.length_eq]; rw [List.length_take, List.length_drop, HZL.out]; omega); have HPM1 := Lib.hid hpm1; have HPW1 := Lib.hid hpw1; clear hpm1 hpw1; obtain ⟨D, c1, rfl, hc1, hp1, ow1⟩ := o1.form; have hg1 : Below wr.heap.size wr w3 := ((Below.refl _ _).drew).trans b1; have kk1 := box_still hb2 (Chg.of_below hg1 0 0); have kb1 := fun o => box_still kk1 (Chg.of_alloc w3 o 0 0))
          | (refine step_of_wp rfl (wp_pushR (w := wr) (w1 := w3) (.tmp 16) (.tmp 28) rfl (q + 1) v ys (by rfl) ho (fun p _ hp => hg1.block p hp) hg1.size D c1 zs1 ow1 hc1 hp1 (by rfl) (by have := hlen.out; omega) hs3 ?_); intro v2 w4 o2 b2; obtain ⟨A2, c2', rfl, _, _⟩ := o2.own; have HBx := Lib.hid (show BoxAt w4 q v 26 from ((b2.block q (by omega)).trans (hg1.block q (by omega))).trans hbox.out); have kk4 := HBx.out.c; have hf4 := HBx.out.f))
      all_goals
        have e2 : (ys ++ [zs1]).length = ys.length + 1 := by simp
        have hl2 : Hid ((ys ++ [zs1]).length = k + 1) := by show _ = _; rw [List.length_append, hlen.out]; rfl
        rw [e2] at o2
        have hfin := OwnVR.kept (w' := w4.setCell ⟨q, 0, none⟩ (.slice A2 (ys.length + 1) c2')) o2 (fun p hp _ => Below.heap_setCell _ _ _ _ (by show p ≠ q; omega)) (by simp [World.setCell])
        have hcf := Lib.hid ((hb.out.trans (hg1.mono (by omega))).trans (Below.setAt (i := 0) (u := .slice A2 (ys.length + 1) c2') (g := q) (b2.mono (Nat.le_succ q)) (Nat.le_refl _)))
        have hsf : q + 1 ≤ (w4.setCell ⟨q, 0, none⟩ (.slice A2 (ys.length + 1) c2')).heap.size := by have := hg1.size; have := b2.size; simp [World.setCell]; omega
        have hbx2 : Hid (BoxAt (w4.setCell ⟨q, 0, none⟩ (.slice A2 (ys.length + 1) c2')) q (.slice A2 (ys.length + 1) c2') 26) := by show _ = _; have := HBx.out; unfold BoxAt at this; simp [World.setCell, Array.getElem?_modify, this]
        have hrow2 : Hid (∀ j, j < k + 1 → ((ys ++ [zs1]).getD j []).length = n) := fun j hj => by
          rw [getD_snoc, hlen.out]
          by_cases e : j < k
          · rw [if_pos e]; exact hrow.out j e
          · rw [if_neg e, if_pos (by omega)]; exact HL1.out
        have hfl2 : Hid ((ys ++ [zs1]).flatten.Perm (zs.take ((k + 1) * n))) := by
          show List.Perm _ _
          rw [hP1.out, List.flatten_append, List.take_add]
          simp only [List.flatten_cons, List.flatten_nil, List.append_nil]
          exact hfl.out.append HPM1.out
        have hpw2 : Hid (∀ r ∈ ys ++ [zs1], r.Pairwise (· < ·)) := fun r hr => by
          rcases List.mem_append.1 hr with h | h
          · exact hpw.out r h
          · rw [List.mem_singleton] at h; rw [h]; exact HPW1.out
        clear o2 b2 hg1 hb ho kk1 kk4 kb1 hb2 o1 b1 ow1 hf4 HBx hbox
        go_wp2
        go_roundw
        case rel => exact ⟨k + 1, _, _, by omega, by go_num, hbx2, hfin, hl2, hrow2, hfl2, hpw2, hcf, hsf⟩
        case measure => simp [intOf]; omega
    · obtain rfl : k = 4 := by omega
      obtain ⟨b', c', rfl, hc1, hc2, hown⟩ := ho.own4 hlen.out
      have p1 := hbox.out.c
      have R4 := Lib.hid (show BoxAt wr w.heap.size (.slice none 0 0) 26 from (hb.out.block _ (by have := HQ.out; have := z1.out; omega)).trans R1.out)
      have p0 := R4.out.c
      have f0 := R4.out.f
      have hret := fun u => R4.out.ret u
      have hz := Lib.hid (show w.heap.size + 1 ≤ q by have := HQ.out; have := z1.out; omega)
      have hst : Hid (Chg wr (wr.setCell ⟨w.heap.size, 0, none⟩ (.slice (some ⟨b', 0, none⟩) 4 c')) w.heap.size (w.heap.size + 1)) := (Chg.refl _ _ _).store (Nat.le_refl _) (by show w.heap.size < w.heap.size + 1; omega) _
      have hS4 := Lib.hid (HS1.out.under hb.out (by have := HQ.out; have := hg1.out; omega))
      have hch4 := Lib.hid ((k1.out.trans (Chg.of_below (hb.out.mono (by have := HQ.out; omega)) _ _)))
      have HO := Lib.hid hown
      clear ho hown hb
      go_wp2
      (try simp only [Exit.inBlock, Exit.then])
      refine bodyPost_ret (v := .agg #[.slice (some ⟨b', 0, none⟩) 4 c']) (by simp [results, Try.results144, go_sem, hret]; try rfl) rfl ?_
      have := hz.out
      refine ⟨b', c', ys, rfl, hc1, hc2, (HO.out.chg hst.out (.inr (by omega))).more (by omega) hst.out.size, hrow.out, drawn_deal8 hlen.out hrow.out hn HND.out HPM.out hfl.out hpw.out, hS4.out.chg hst.out (.inl hg), ?_⟩
      exact chg_new hch4.out (Nat.le_refl _) _

end Go.Proofs.Yteglffbeldlibaa.Lib1
