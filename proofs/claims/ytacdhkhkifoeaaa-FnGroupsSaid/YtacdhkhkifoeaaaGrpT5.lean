/- Chapter 5: the model's EquivalentCards and GroupsOf. -/
import Derived.Test.YtacdhkhkifoeaaaGrpS5
import Derived.Deep.QuietTactic
import Derived.Deep.RegionHeld3
import Derived.BigQuiet
namespace Go.Proofs.Ytacdhkhkifoeaaa.Lib1
open Go.RowKit
set_option maxRecDepth 100000

theorem RetSI.of_eq {w w' : World} {zs zs' : List Int} {k k' : Int} {e : Ending} (h1 : zs' = zs) (h2 : k' = k) (h : RetSI w zs k e w') : RetSI w zs' k' e w' := by subst h1; subst h2; exact h
set_option maxHeartbeats 1000000 in
/-- spec.EquivalentCards -/
theorem spec_EquivalentCards (A : Option Addr) (n c : Nat) (x : Int) (zss : List (List Int)) (lo hi : Nat) (w : World) (h : RdR w lo hi A n zss) (hn : n ≤ 1048576) (hl : ∀ j, j < n → (zss.getD j []).length ≤ 1048576) :
    Calls Try.prog 48 #[.agg #[.slice A n c], .int .i64 x] w (RetSI w (eqcV zss x) (eqcE zss x)) := by
  have hbx := Lib.hid (box_at w (.slice A n c) 26)
  have hb0 := hbx.out
  have ca := Lib.hid (Chg.of_alloc w (.cells #[.slice A n c] 26) 0 0)
  cases hd : dealB zss with
  | false =>
    have hv : Hid (eqcV zss x = []) := by show _ = _; simp [eqcV, hd]
    have he : Hid (eqcE zss x = 1) := by show _ = _; simp [eqcE, hd]
    have HD := Lib.hid hd
    go_enter Try.func48, Try.ntmps48
    go_wp2_with fail
    refine (l03Deal A n c zss lo hi _ (h.still ca.out) hl).mono ?_
    rintro e w1 ⟨rfl, c1⟩
    rw [HD.out]
    have c2 := Lib.hid (Chg.of_alloc w1 (.cells #[] 2) 0 0)
    go_wp2_with fail
    go_ret2
    exact RetSI.of_eq hv.out he.out ⟨_, 0, rfl, Nat.le_refl _, Plain.at_ _ _ _, Own.none_, (ca.out.trans c1).trans c2.out⟩
  | true =>
    have HD := Lib.hid hd
    by_cases hp : 0 ≤ holderF zss x
    · have hv : Hid (eqcV zss x = grpF (holderF zss) x) := by show _ = _; simp [eqcV, hd, hp]
      have he : Hid (eqcE zss x = 0) := by show _ = _; simp [eqcE, hd, hp]
      have hx51 : 0 ≤ x ∧ x ≤ 51 := by
        obtain ⟨j, hj, _, hm⟩ := holder_mem hp
        obtain ⟨h4, hr, _⟩ := (deal_iff zss).1 hd
        have := ((hand_iff _).1 (hr j (by omega)).1).2.2 x hm
        omega
      obtain ⟨x0, x1⟩ := hx51
      have HP := Lib.hid hp
      have hnot : ¬ holderF zss x < 0 := by omega
      clear hd hp
      go_enter Try.func48, Try.ntmps48
      go_wp2_with fail
      refine (l03Deal A n c zss lo hi _ (h.still ca.out) hl).mono ?_
      rintro e w1 ⟨rfl, c1⟩
      rw [HD.out]
      have hb1 := box_still hbx.out c1
      go_wp2_with fail
      refine (l03Holder A n c x zss lo hi _ (h.still (ca.out.trans c1)) hn hl).mono ?_
      rintro e w2 ⟨rfl, c2⟩
      have hb2 := box_still hb1 c2
      go_wp2_with fail
      refine (l05Group A n c x zss lo hi _ (h.still ((ca.out.trans c1).trans c2)) hn hl x0 x1 HP).mono ?_
      rintro e w3 hret
      obtain ⟨A3, c3, rfl, hc3, hp3, o3, ch3⟩ := RetS.of_V hret
      go_wp2_with fail
      go_ret2
      have c12 := (ca.out.trans c1).trans c2
      exact RetSI.of_eq hv.out he.out ⟨A3, c3, rfl, hc3, hp3, o3.more c12.size (Nat.le_refl _), c12.trans ch3⟩
    · have hv : Hid (eqcV zss x = []) := by show _ = _; simp [eqcV, hp]
      have he : Hid (eqcE zss x = 4) := by show _ = _; simp [eqcE, hd, hp]
      have hlt : holderF zss x < 0 := by omega
      clear hd hp
      go_enter Try.func48, Try.ntmps48
      go_wp2_with fail
      refine (l03Deal A n c zss lo hi _ (h.still ca.out) hl).mono ?_
      rintro e w1 ⟨rfl, c1⟩
      rw [HD.out]
      have hb1 := box_still hbx.out c1
      go_wp2_with fail
      refine (l03Holder A n c x zss lo hi _ (h.still (ca.out.trans c1)) hn hl).mono ?_
      rintro e w2 ⟨rfl, c2⟩
      have c3 := Lib.hid (Chg.of_alloc w2 (.cells #[] 2) 0 0)
      go_wp2_with fail
      go_ret2
      exact RetSI.of_eq hv.out he.out ⟨_, 0, rfl, Nat.le_refl _, Plain.at_ _ _ _, Own.none_, ((ca.out.trans c1).trans c2).trans c3.out⟩

theorem firsts_len (G : Int → List Int) : ∀ l : List Int, (firstsF G l).length ≤ l.length
  | [] => Nat.le_refl _
  | x :: l => by have := firsts_len G l; rw [firstsF, List.length_append]; split <;> simp <;> omega
theorem OwnVQ.made (w : World) {base : Nat} (hb : base ≤ w.heap.size) : OwnVQ (w.alloc (.cells #[] 36)) base (.slice (some ⟨w.heap.size, 0, none⟩) 0 0) [] :=
  ⟨[], ⟨by simp, .inr ⟨w.heap.size, 0, #[], rfl, hb, heap_alloc_new w _, Nat.le_refl _, Nat.zero_le _, by simp, by simp⟩⟩, fun _ h => absurd h (by simp), fun _ _ _ h => absurd h (by simp)⟩
theorem OwnVQ.still {w w' : World} {base : Nat} {v : Value} {zss : List (List Int)} (h : OwnVQ w base v zss) (c : Chg w w' 0 0) : OwnVQ w' base v zss := h.kept fun k _ hk => c.block k hk (.inr (Nat.zero_le _))
theorem grpF_pos (h : Int → Int) (c : Int) : 0 < (grpF h c).length := by unfold grpF; simp; omega

set_option maxHeartbeats 2000000 in
/-- spec.GroupsOf -/
theorem spec_GroupsOf (A : Option Addr) (n c : Nat) (s : Int) (zss : List (List Int)) (lo hi : Nat) (w : World) (h : RdR w lo hi A n zss) (hn : n ≤ 1048576) (hl : ∀ j, j < n → (zss.getD j []).length ≤ 1048576) :
    Calls Try.prog 26 #[.agg #[.slice A n c], .int .i64 s] w (RetQI w (grpV zss s) (grpE zss s)) := by
  have hz0 : (w.alloc (.cells #[.slice A n c] 26)).heap.size = w.heap.size + 1 := by simp
  have ca := Lib.hid ((Chg.of_alloc w (.cells #[.slice A n c] 26) 0 0).trans (Chg.of_alloc (w.alloc (.cells #[.slice A n c] 26)) (.cells #[] 36) 0 0))
  have hbx := Lib.hid (box_still (box_at w (.slice A n c) 26) (Chg.of_alloc (w.alloc (.cells #[.slice A n c] 26)) (.cells #[] 36) 0 0))
  have hb0 := hbx.out
  have hmade := Lib.hid (OwnVQ.made (w.alloc (.cells #[.slice A n c] 26)) (base := w.heap.size + 1) (by omega))
  rw [hz0] at hmade
  clear hz0
  cases hd : dealB zss with
  | false =>
    have hv : Hid (grpV zss s = []) := by show _ = _; simp [grpV, hd]
    have he : Hid (grpE zss s = 1) := by show _ = _; simp [grpE, hd]
    have HD := Lib.hid hd
    go_enter Try.func26, Try.ntmps26
    go_wp2_with fail
    refine (l03Deal A n c zss lo hi _ (h.still ca.out) hl).mono ?_
    rintro e w1 ⟨rfl, c1⟩
    rw [HD.out]
    go_wp2_with fail
    go_ret2
    exact RetQI.of_eq hv.out he.out ⟨_, 0, rfl, Nat.le_refl _, OwnR.none_, ca.out.trans c1⟩
  | true =>
    have HD := Lib.hid hd
    cases hi3 : inB s 0 3 with
    | false =>
      have hv : Hid (grpV zss s = []) := by show _ = _; simp [grpV, hi3]
      have he : Hid (grpE zss s = 2) := by show _ = _; simp [grpE, hd, hi3]
      have H3 := Lib.hid hi3
      clear hd hi3
      go_enter Try.func26, Try.ntmps26
      go_wp2_with fail
      refine (l03Deal A n c zss lo hi _ (h.still ca.out) hl).mono ?_
      rintro e w1 ⟨rfl, c1⟩
      rw [HD.out]
      go_wp2_with fail
      refine (l01In s 0 3 _).mono ?_
      rintro e w' ⟨rfl, rfl⟩
      rw [H3.out]
      go_wp2_with fail
      go_ret2
      exact RetQI.of_eq hv.out he.out ⟨_, 0, rfl, Nat.le_refl _, OwnR.none_, ca.out.trans c1⟩
    | true =>
      obtain ⟨t, rfl, ht⟩ : ∃ t : Nat, s = (t : Int) ∧ t < 4 := by simp [inB] at hi3; exact ⟨s.toNat, by omega, by omega⟩
      have hv : Hid (grpV zss (t : Int) = firstsF (grpF (holderF zss)) (zss.getD t [])) := by show _ = _; rw [groups_runs hd ht]; simp [grpV, hd, hi3]
      have he : Hid (grpE zss (t : Int) = 0) := by show _ = _; simp [grpE, hd, hi3]
      have H3 := Lib.hid hi3
      obtain ⟨hz4, hrows, hnd⟩ := (deal_iff zss).1 hd
      have hnz := h.1
      obtain rfl : n = 4 := by omega
      have hrow := (hand_iff _).1 (hrows t ht).1
      have h13 := Lib.hid (hand_len (hrows t ht).1)
      have h51 := Lib.hid hrow.2.2
      have HP : Hid (∀ x ∈ zss.getD t [], 0 ≤ holderF zss x) := fun x hx => by rw [holder_at hnd (by omega) hx]; omega
      have htl : (t : Int) < 4 := by omega
      obtain ⟨b, off, B, C, rfl, _, _, hcw, hrw, _, _⟩ := h.at_ ht
      have KC := Lib.hid hcw
      have KR := Lib.hid hrw
      generalize hG : grpF (holderF zss) = G at hv
      have HG := Lib.hid hG
      have KL : (zss.getD t []).length ≤ 13 := h13.out
      generalize zss.getD t [] = row at hv h51 HP KC KR KL
      clear hd hi3 hz4 hrows hnd hnz hrow h13 hcw hrw hG
      go_enter Try.func26, Try.ntmps26
      go_wp2_with fail
      refine (l03Deal _ 4 c zss lo hi _ (h.still ca.out) hl).mono ?_
      rintro e w1 ⟨rfl, c1⟩
      rw [HD.out]
      have k1 := Lib.hid (ca.out.trans c1)
      have hb1 := Lib.hid (box_still hbx.out c1)
      have ho1 := hmade.out.still c1
      have hz1 : Hid (w.heap.size + 1 ≤ w1.heap.size) := by have := c1.size; show _ ≤ _; simp at this; omega
      clear c1 hb0 hmade hbx ca
      go_wp2_with fail
      refine (l01In (t : Int) 0 3 _).mono ?_
      rintro e w' ⟨rfl, rfl⟩
      rw [H3.out]
      go_wp2_with fail
      go_loopw [6, 7] (fun v i wr => ∃ k : Nat, k ≤ row.length ∧ i = .int .i64 k ∧ OwnVQ wr (w.heap.size + 1) v (firstsF G (row.take k)) ∧ Below (w.heap.size + 1) w1 wr) (fun _ i _ => row.length - (intOf i).toNat)
      case atStart => exact ⟨0, Nat.zero_le _, rfl, by simpa [firstsF] using ho1, Below.refl _ _⟩
      case round =>
        clear ho1
        obtain ⟨k, hk, rfl, ho, hb⟩ := hrel
        have cw := Lib.hid (Chg.of_below (k1.out.to_below.trans (hb.mono (Nat.le_succ _))) 0 0)
        have q0 := cell_below hb1.out hb (Nat.lt_succ_self _)
        have q1 := box_still KC.out cw.out
        have hzr : w.heap.size + 1 ≤ wr.heap.size := Nat.le_trans hz1.out hb.size
        by_cases hlt : k < row.length
        · have hkl : (k : Int) < (row.length : Int) := by omega
          obtain ⟨rb, ro, rfl, _, _, hrc⟩ := (KR.out.still cw.out).2 (by omega)
          have q2 := hrc k hlt
          have hmem : row.getD k 0 ∈ row := by rw [getD_at _ _ hlt]; exact List.getElem_mem _
          have hx51 := h51.out _ hmem
          have hpx := Lib.hid (HP.out _ hmem)
          have HF := Lib.hid (firsts_take G row hlt)
          have hfl : (firstsF G (row.take k)).length ≤ 1048576 := by have := firsts_len G (row.take k); have := List.length_take_le k row; omega
          have hGx : Hid (grpF (holderF zss) (row.getD k 0) = G (row.getD k 0)) := by show _ = _; rw [HG.out]
          generalize row.getD k 0 = x at q2 hx51 hpx HF hGx
          generalize firstsF G (row.take k) = gs at ho HF hfl
          obtain ⟨x0, x1⟩ := hx51
          have dr := Lib.hid (Chg.drewN wr 1 0 0)
          clear hmem hrc
          go_wp2_with fail
          go_region_held3 (fun W => W.cell? ⟨w.heap.size, 0, none⟩ = some (.slice (some ⟨b, off, none⟩) 4 c) ∧ W.cell? ⟨b, off + t, none⟩ = some (.slice (some ⟨rb, ro, none⟩) row.length C) ∧ W.cell? ⟨rb, ro + k, none⟩ = some (.int .i64 x)) (first | exact ⟨q0, q1, q2⟩ | exact ⟨q03, q13, q23⟩) (first | (go_at_call 72; refine (l05Group (some ⟨b, off, none⟩) 4 c x zss lo hi _ ((h.still cw.out).still dr.out) hn hl x0 x1 hpx).mono ?_; rintro e w3 ⟨v3, rfl, o3, b3⟩; have c3 := Lib.hid (dr.out.trans (Chg.of_below b3 0 0)); have q03 := box_still q0 c3.out; have q13 := box_still q1 c3.out; have q23 := box_still q2 c3.out))
          all_goals
            rw [hGx.out] at o3
            have hpos : 0 < (G x).length := by rw [← hGx.out]; exact grpF_pos _ _
            generalize G x = g at o3 HF hpos
            have hu := Lib.hid o3
            obtain ⟨A3, c3', rfl, hc3', hp3, own3⟩ := o3.form
            obtain ⟨gb, cs, rfl, _, _, hgb, hgc⟩ := own3.2 hpos
            have q4 : w3.cell? ⟨gb, 0, none⟩ = some (.int .i64 (g.getD 0 0)) := by rw [cell_of_row _ _ _ _ _ _ hgb]; exact hgc 0 hpos
            have hgl : 0 < (g.length : Int) := by omega
            have hb3 := Lib.hid (hb.trans (c3.out.to_below.mono hzr))
            have hk3 : Hid (∀ k', w.heap.size + 1 ≤ k' → k' < wr.heap.size → w3.heap[k']? = wr.heap[k']?) := fun k' _ hlt' => c3.out.block k' hlt' (.inr (Nat.zero_le _))
            have hz3 := Lib.hid c3.out.size
            clear hgb hgc own3 b3 o3 hb c3
            generalize g.getD 0 0 = y at q4 HF
            by_cases e : y = x
            · subst e
              have HE : Hid (firstsF G (row.take (k + 1)) = gs ++ [g]) := by show _ = _; rw [HF.out, if_pos rfl]
              go_wp2_with fail
              go_quiet (fail)
              go_wp2_with (at_builtin; refine wpList_pushVQ (w := wr) rfl (.tmp 50) (.tmp 52) rfl (w.heap.size + 1) _ gs (by rfl) ho (by exact hk3.out) (by exact hz3.out) _ g (by exact hu.out.still (Chg.drewN _ _ 0 0)) w3.heap.size (by rfl) (by rfl) hfl hzr ?_; intro v4 w4 o4 b4)
              rw [← HE.out] at o4
              go_roundw
              case rel => exact ⟨k + 1, by omega, by go_num, o4, hb3.out.trans (((Chg.drewN _ _ 0 0).to_below.mono (Nat.le_trans hzr hz3.out)).trans b4)⟩
              case measure => simp [intOf]; omega
            · have hne : (y == x) = false := by simpa using e
              have HE : Hid (firstsF G (row.take (k + 1)) = gs) := by show _ = _; rw [HF.out, if_neg e, List.append_nil]
              have ho3 := ho.kept hk3.out
              go_wp2_with fail
              go_quiet (fail)
              go_wp2_with fail
              go_roundw
              case rel => exact ⟨k + 1, by omega, by go_num, by rw [HE.out]; exact ho3.still (Chg.drewN _ _ 0 0), hb3.out.trans ((Chg.drewN _ _ 0 0).to_below.mono (Nat.le_trans hzr hz3.out))⟩
              case measure => simp [intOf]; omega
        · obtain rfl : k = row.length := by omega
          have hv2 : Hid (grpV zss (t : Int) = firstsF G (row.take row.length)) := by show _ = _; rw [hv.out, List.take_length]
          obtain ⟨A3, c3, rfl, hc3, own3⟩ := ho.own
          go_wp2_with fail
          go_ret2
          exact RetQI.of_eq hv2.out he.out ⟨A3, c3, rfl, hc3, own3.more (Nat.le_succ _) (Nat.le_refl _), cw.out⟩

end Go.Proofs.Ytacdhkhkifoeaaa.Lib1
