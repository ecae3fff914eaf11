/- Chapter 5: the model's DealOfHolders. -/
import Derived.Test.YtdfmkikngifjmaaLists5
import Derived.Test.YtdfmkikngifjmaaMadeS5
import Derived.Test.YtdfmkikngifjmaaDraws
import Derived.Deep.QuietTactic
import Derived.BigQuiet
namespace Go.Proofs.Ytdfmkikngifjmaa.Lib1
open Go.RowKit
set_option maxRecDepth 100000

theorem own4 (w : World) (a b c d : Int) : Own (w.alloc (.cells #[.int .i64 a, .int .i64 b, .int .i64 c, .int .i64 d] 2)) w.heap.size (w.heap.size + 1) (some ⟨w.heap.size, 0, none⟩) 4 [a, b, c, d] :=
  ⟨rfl, fun _ => ⟨w.heap.size, _, rfl, Nat.le_refl _, Nat.lt_succ_self _, heap_alloc_new w _, fun j hj => by
    rcases (by omega : j = 0 ∨ j = 1 ∨ j = 2 ∨ j = 3) with rfl | rfl | rfl | rfl <;> rfl⟩⟩
theorem inB_range {z l u : Int} (h : inB z l u = true) : l ≤ z ∧ z ≤ u := by unfold inB at h; simpa using h
theorem madeTo_lenq (L : List (List Int)) (s : Int) : ∀ q, (∀ j, j < q → (L.getD j []).length ≤ 13) → (madeTo L s q).length ≤ 13 * q
  | 0, _ => Nat.le_refl _
  | q + 1, h => by have := madeTo_lenq L s q fun j hj => h j (by omega); have := madeL_len (q : Int) s (L.getD q []) 0; have := h q (by omega); rw [madeTo, List.length_append]; omega
theorem cntH_leq {L : List (List Int)} {q : Nat} (h : ∀ j, j < q + 1 → (L.getD j []).length ≤ 13) (k : Nat) (s : Int) : cntH L q k s ≤ 13 * q + 13 := by
  have h1 := madeTo_lenq L s q fun j hj => h j (by omega)
  have h2 : occ s ((L.getD q []).take k) ≤ ((L.getD q []).take k).length := List.countP_le_length
  have h3 := h q (by omega)
  rw [List.length_take] at h2
  unfold cntH; omega
theorem doh_no {L : List (List Int)} (h : hlB L = false) : dohE L = 1 ∧ dohV L = [] := by simp [dohE, dohV, h]
set_option maxHeartbeats 4000000 in
/-- spec.DealOfHolders -/
theorem spec_DealOfHolders (A : Option Addr) (n c : Nat) (L : List (List Int)) (lo hi : Nat) (w : World) (h : RdR w lo hi A n L) (hn : n ≤ 1048576) (hl : ∀ j, j < n → (L.getD j []).length ≤ 1048576) :
    Calls Try.prog 16 #[.slice A n c] w (RetDI w (dohV L) (dohE L)) := by
  have hz := h.1
  have hz0 : Hid ((w.alloc (.cells #[.slice none 0 0] 25)).heap.size = w.heap.size + 1) := by show _ = _; simp
  have ca := Lib.hid (Chg.of_alloc w (.cells #[.slice none 0 0] 25) 0 0)
  have D0 := Lib.hid (BoxAt.new w (.slice none 0 0) 25 rfl)
  by_cases h4 : n = 4
  · subst h4
    have HL4 := Lib.hid hz
    have HNO := Lib.hid (fun h => doh_no (L := L) h)
    have HRW := Lib.hid (fun q hq h => hlB_row (L := L) (q := q) hq h)
    have O0 := Lib.hid (own4 (w.alloc (.cells #[.slice none 0 0] 25)) 0 0 0 0)
    rw [hz0.out] at O0
    have c0 := Lib.hid (ca.out.trans (Chg.of_alloc (w.alloc (.cells #[.slice none 0 0] 25)) (.cells #[.int .i64 0, .int .i64 0, .int .i64 0, .int .i64 0] 2) 0 0))
    have D1 := Lib.hid (D0.out.alloc (.cells #[.int .i64 0, .int .i64 0, .int .i64 0, .int .i64 0] 2))
    have hc0 : Hid (cntL L 0 0 = [0, 0, 0, 0]) := by show _ = _; simp [cntL, cntH_zero]
    clear hz ca D0
    go_enter Try.func16, Try.ntmps16
    go_wp2_with fail
    go_loopw [5] (fun i wr => ∃ q : Nat, q ≤ 4 ∧ i = .int .i64 q ∧ Own wr (w.heap.size + 1) (w.heap.size + 1 + 1) (some ⟨w.heap.size + 1, 0, none⟩) 4 (cntL L q 0) ∧ Hid (BoxAt wr w.heap.size (.slice none 0 0) 25) ∧ Hid (∀ j, j < q → rowH (L.getD j []) = true) ∧ Hid (Chg w wr 0 0)) (fun i _ => 4 - (intOf i).toNat)
    case atStart => exact ⟨0, by omega, rfl, by rw [hc0.out]; exact O0.out, D1.out, fun j hj => by omega, c0.out⟩
    case round =>
      clear O0 c0 D1 hc0
      obtain ⟨q, hq, rfl, ho, hD, hok, hch⟩ := hrel
      by_cases hlt : q < 4
      · have hql : (q : Int) < 4 := by omega
        obtain ⟨b, off, B, C, rfl, _, _, hcw, hrw, _, _⟩ := h.at_ hlt
        have q1 := box_still hcw hch.out
        have KC := Lib.hid hcw
        have KR := Lib.hid hrw
        have HST := Lib.hid (fun k t hk ht hx => cntL_step L (q := q) (k := k) (t := t) hk ht hx)
        have HNX : Hid (cntL L (q + 1) 0 = cntL L q (L.getD q []).length) := by show _ = _; simp only [cntL, cntH_next]
        have HAT := Lib.hid (fun k t ht => cntL_at L q k (t := t) ht)
        have HRI := Lib.hid (rowH_iff (L.getD q []))
        have hrl := hl q hlt
        have hrf : Hid (¬ (L.getD q []).length ≤ 13 → rowH (L.getD q []) = false) := fun h' => by
          cases hh : rowH (L.getD q []) with
          | false => rfl
          | true => exact absurd ((rowH_iff _).1 hh).1 h'
        have hrg : Hid (∀ k, k < (L.getD q []).length → inB ((L.getD q []).getD k 0) 0 3 = false → rowH (L.getD q []) = false) := fun k hk h' => by
          cases hh : rowH (L.getD q []) with
          | false => rfl
          | true =>
            have := ((rowH_iff _).1 hh).2 ((L.getD q []).getD k 0) (by rw [getD_at _ _ hk]; exact List.getElem_mem _)
            rw [inB_true this] at h'; cases h'
        obtain ⟨row, hrow⟩ : ∃ row, L.getD q [] = row := ⟨_, rfl⟩
        rw [hrow] at q1 KC KR HNX HRI hrl hrf hrg HST
        have HROW := Lib.hid hrow
        clear hrow hcw hrw
        by_cases h13 : row.length ≤ 13
        · have h13n : ¬ (13 : Int) < (row.length : Int) := by omega
          obtain ⟨wo, hwo⟩ : ∃ wo, wo = wr := ⟨wr, rfl⟩
          subst hwo
          go_wp2_with fail
          clear q1
          go_loopw [6] (fun i wr => ∃ k : Nat, k ≤ row.length ∧ i = .int .i64 k ∧ Own wr (w.heap.size + 1) (w.heap.size + 1 + 1) (some ⟨w.heap.size + 1, 0, none⟩) 4 (cntL L q k) ∧ Hid (BoxAt wr w.heap.size (.slice none 0 0) 25) ∧ Hid (∀ j, j < k → inB (row.getD j 0) 0 3 = true) ∧ Hid (Chg w wr 0 0)) (fun i _ => row.length - (intOf i).toNat)
          case atStart => exact ⟨0, Nat.zero_le _, rfl, ho, hD, fun j hj => by omega, hch⟩
          case round =>
            clear ho hD hch
            obtain ⟨k, hk, rfl, ho, hD, hin, hch⟩ := hrel
            have q1 := box_still KC.out hch.out
            by_cases hkl : k < row.length
            · have hkI : (k : Int) < (row.length : Int) := by omega
              obtain ⟨rb, ro, rfl, _, _, hrc⟩ := (KR.out.still hch.out).2 (by omega)
              have q2 := hrc k hkl
              have hgk := Lib.hid (hrg.out k hkl)
              cases hx : inB (row.getD k 0) 0 3 with
              | false =>
                have hbad := hgk.out hx
                have HX := Lib.hid hx
                obtain ⟨he, hv⟩ := HNO.out (HRW.out q hlt (by rw [HROW.out]; exact hbad))
                have HE := Lib.hid he
                have HV := Lib.hid hv
                have p1 := hD.out.c
                have f1 := hD.out.f
                have hret := fun u => hD.out.ret u
                have hcf := Lib.hid (hch.out.cell (g := w.heap.size) (i := 0) (v := .slice none 0 0) (Nat.le_refl _))
                clear he hv ho
                clear hbad hx hrc hgk
                generalize row.getD k 0 = z at q2 HX
                go_wp2_with fail
                refine (l01In z 0 3 _).mono ?_
                rintro e w' ⟨rfl, rfl⟩
                rw [HX.out]
                go_wp2_with fail
                (try simp only [Exit.inBlock, Exit.then])
                refine bodyPost_ret (v := .tuple #[.agg #[.slice none 0 0], .int .i64 1]) (by simp [results, Try.results16, go_sem, hret]; try rfl) rfl ?_
                rw [HE.out, HV.out]
                exact ⟨none, 0, rfl, Nat.le_refl _, OwnR.none_, hcf.out⟩
              | true =>
                have HX := Lib.hid hx
                obtain ⟨t, ht⟩ : ∃ t : Nat, row.getD k 0 = (t : Int) := ⟨(row.getD k 0).toNat, by have := inB_range hx; omega⟩
                have ht4 : t < 4 := by have := inB_range hx; omega
                have hs := Lib.hid (HST.out k t hkl ht4 ht)
                have hin2 : Hid (∀ j, j < k + 1 → inB (row.getD j 0) 0 3 = true) := fun j hj => by
                  by_cases e : j < k
                  · exact hin.out j e
                  · obtain rfl : j = k := by omega
                    exact HX.out
                have hA := HAT.out k t ht4
                have htl : (t : Int) < 4 := by omega
                have ht0 : (0 : Int) ≤ (t : Int) := by omega
                rw [ht] at q2 HX
                obtain ⟨cb, cs, ecb, _, _, hblk, hcs⟩ := ho.2 (by omega)
                injection ecb with ecb
                injection ecb with ecb _ _
                subst ecb
                have hcell : wr.cell? ⟨w.heap.size + 1, t, none⟩ = some (.int .i64 (cntH L q k (t : Int) : Int)) := by rw [cell_of_row _ _ _ _ _ _ hblk, hcs t ht4, hA]
                have hfr : wr.frozen? ⟨w.heap.size + 1, t, none⟩ = false := by simp [World.frozen?, hblk]
                have hle : cntH L q k (t : Int) ≤ 1048576 := by
                  have := cntH_leq (L := L) (q := q) (fun j hj => by
                    by_cases e : j < q
                    · exact ((rowH_iff _).1 (hok.out j e)).1
                    · obtain rfl : j = q := by omega
                      rw [HROW.out]; exact h13) k (t : Int)
                  omega
                have ho2 := Lib.hid (ho.set ht4 ((cntH L q k (t : Int) : Int) + 1))
                rw [← hs.out] at ho2
                have hD2 : Hid (BoxAt (wr.setCell ⟨w.heap.size + 1, t, none⟩ (.int .i64 ((cntH L q k (t : Int) : Int) + 1))) w.heap.size (.slice none 0 0) 25) := hD.out.set (by omega)
                have hch2 := Lib.hid (hch.out.cell (g := w.heap.size + 1) (i := t) (v := .int .i64 ((cntH L q k (t : Int) : Int) + 1)) (Nat.le_succ _))
                clear hx ht hs hA ho hblk hcs hgk hrc
                generalize cntH L q k (t : Int) = m at hcell hle ho2 hD2 hch2
                go_wp2_with fail
                refine (l01In (t : Int) 0 3 _).mono ?_
                rintro e w' ⟨rfl, rfl⟩
                rw [HX.out]
                go_wp2_with fail
                go_roundw
                case rel => exact ⟨k + 1, by omega, by go_num, ho2.out, hD2, hin2, hch2⟩
                case measure => simp [intOf]; omega
            · obtain rfl : k = row.length := by omega
              have hok2 : Hid (∀ j, j < q + 1 → rowH (L.getD j []) = true) := fun j hj => by
                by_cases e : j < q
                · exact hok.out j e
                · obtain rfl : j = q := by omega
                  rw [HROW.out]
                  refine HRI.out.2 ⟨h13, fun x hx => ?_⟩
                  obtain ⟨i, hi, rfl⟩ := List.mem_iff_getElem.1 hx
                  have := inB_range (hin.out i hi)
                  rw [getD_at _ _ hi] at this
                  exact this
              rw [← HNX.out] at ho
              go_wp2_with fail
              go_roundw
              case rel => exact ⟨q + 1, by omega, by go_num, ho, hD, hok2, hch⟩
              case measure => simp [intOf]; omega
        · have h13n : (13 : Int) < (row.length : Int) := by omega
          have hbad := hrf.out h13
          obtain ⟨he, hv⟩ := HNO.out (HRW.out q hlt (by rw [HROW.out]; exact hbad))
          have HE := Lib.hid he
          have HV := Lib.hid hv
          have p1 := hD.out.c
          have f1 := hD.out.f
          have hret := fun u => hD.out.ret u
          have hcf := Lib.hid (hch.out.cell (g := w.heap.size) (i := 0) (v := .slice none 0 0) (Nat.le_refl _))
          clear he hv ho
          clear hbad
          go_wp2_with fail
          (try simp only [Exit.inBlock, Exit.then])
          refine bodyPost_ret (v := .tuple #[.agg #[.slice none 0 0], .int .i64 1]) (by simp [results, Try.results16, go_sem, hret]; try rfl) rfl ?_
          rw [HE.out, HV.out]
          exact ⟨none, 0, rfl, Nat.le_refl _, OwnR.none_, hcf.out⟩
      · obtain rfl : q = 4 := by omega
        have hHL := Lib.hid (hlB_yes HL4.out hok.out)
        have HM := Lib.hid (made_deal (hlB_HL hHL.out))
        have HHL := Lib.hid (hlB_HL hHL.out)
        have HC4 : Hid (∀ t : Nat, t < 4 → (cntL L 4 0).getD t 0 = ((madeTo L (t : Int) 4).length : Int)) := fun t ht => by rw [cntL_at L 4 0 ht, cntH_all]
        have HB : Hid (∀ t : Nat, (madeTo L (t : Int) 4).length ≤ 52) := fun t => by have := madeTo_len L (t : Int) HHL.out.2.1 4; omega
        generalize cntL L 4 0 = cs4 at ho HC4
        obtain ⟨cb, cs, ecb, _, _, hblk, hcs⟩ := ho.2 (by omega)
        injection ecb with ecb
        injection ecb with ecb _ _
        subst ecb
        have hcell : ∀ t : Nat, t < 4 → wr.cell? ⟨w.heap.size + 1, t, none⟩ = some (.int .i64 ((madeTo L (t : Int) 4).length : Int)) := fun t ht => by rw [cell_of_row _ _ _ _ _ _ hblk, hcs t ht, HC4.out t ht]
        have HCELL := Lib.hid hcell
        have hBK := Lib.hid hblk
        clear hcell ho hblk hcs HC4 hok HNO HRW
        obtain ⟨w1, hw1⟩ : ∃ w1, w1 = wr := ⟨wr, rfl⟩
        subst hw1
        obtain ⟨F, hF⟩ : ∃ F : Nat → Nat, ∀ t : Nat, (madeTo L (t : Int) 4).length = F t := ⟨fun t => (madeTo L (t : Int) 4).length, fun _ => rfl⟩
        have HCF : Hid (∀ t : Nat, t < 4 → w1.cell? ⟨w.heap.size + 1, t, none⟩ = some (.int .i64 (F t : Int))) := fun t ht => by rw [← hF t]; exact HCELL.out t ht
        have HBF : Hid (∀ t, F t ≤ 52) := fun t => by rw [← hF t]; exact HB.out t
        have HMF : Hid (dealB (madeRows L) = true ↔ ∀ t, t < 4 → F t = F 0 ∧ F t ≤ 13) := by
          show _ ↔ _
          rw [HM.out]
          constructor
          · intro g t ht; have := g t ht; rw [hF t, show (madeTo L 0 4).length = F 0 from hF 0] at this; exact this
          · intro g t ht; have := g t ht; rw [hF t, show (madeTo L 0 4).length = F 0 from hF 0]; exact this
        clear hF HCELL HB HM
        go_wp2_with fail
        go_loopw [8] (fun i wr => ∃ t : Nat, t ≤ 4 ∧ i = .int .i64 t ∧ Hid (∀ j, j < t → F j = F 0 ∧ F j ≤ 13) ∧ Hid (Chg w1 wr 0 0)) (fun i _ => 4 - (intOf i).toNat)
        case atStart => exact ⟨0, by omega, rfl, fun j hj => by omega, Chg.refl _ _ _⟩
        case round =>
          obtain ⟨t, ht, rfl, hgood, hcw⟩ := hrel
          by_cases htl : t < 4
          · have htI : (t : Int) < 4 := by omega
            have ct := box_still (HCF.out t htl) hcw.out
            have cz := box_still (HCF.out 0 (by omega)) hcw.out
            have hb1 := HBF.out t
            have hb2 := HBF.out 0
            by_cases he : F t = F 0
            · by_cases h13 : F t ≤ 13
              · have hg2 : Hid (∀ j, j < t + 1 → F j = F 0 ∧ F j ≤ 13) := fun j hj => by
                  by_cases e : j < t
                  · exact hgood.out j e
                  · obtain rfl : j = t := by omega
                    exact ⟨he, h13⟩
                rw [he] at ct h13
                obtain ⟨m, hm⟩ : ∃ m, F 0 = m := ⟨_, rfl⟩
                rw [hm] at ct cz h13 hb2
                clear hm
                have h13I : ¬ (13 : Int) < (m : Int) := by omega
                clear he hb1
                go_wp2_with fail
                go_quiet (fail)
                go_wp2_with fail
                go_roundw
                case rel => exact ⟨t + 1, by omega, by go_num, hg2, hcw.out.trans (Chg.drewN _ _ 0 0)⟩
                case measure => simp [intOf]; omega
              · have hnd : dealB (madeRows L) = false := by
                  cases hh : dealB (madeRows L) with
                  | false => rfl
                  | true => have := HMF.out.1 hh t htl; omega
                have HE : Hid (dohE L = 5) := by show _ = _; simp [dohE, hHL.out, hnd]
                have HV : Hid (dohV L = []) := by show _ = _; simp [dohV, hnd]
                have hDD := Lib.hid (hD.out.still hcw.out)
                have p1 := fun qq => (show BoxAt (wr.drewN qq) _ _ _ from hDD.out).c
                have f1 := fun qq => (show BoxAt (wr.drewN qq) _ _ _ from hDD.out).f
                have hret := fun qq u => (show BoxAt (wr.drewN qq) _ _ _ from hDD.out).ret u
                have hcf := Lib.hid (fun qq => ((hch.out.trans hcw.out).trans (Chg.drewN wr qq 0 0)).cell (g := w.heap.size) (i := 0) (v := .slice none 0 0) (Nat.le_refl _))
                clear hnd
                rw [he] at ct h13
                obtain ⟨m, hm⟩ : ∃ m, F 0 = m := ⟨_, rfl⟩
                rw [hm] at ct cz h13 hb2
                clear hm
                have h13I : (13 : Int) < (m : Int) := by omega
                clear he hb1
                go_wp2_with fail
                go_quiet (fail)
                go_wp2_with fail
                (try simp only [Exit.inBlock, Exit.then])
                refine bodyPost_ret (v := .tuple #[.agg #[.slice none 0 0], .int .i64 5]) (by simp [results, Try.results16, go_sem, hret]; try rfl) rfl ?_
                rw [HE.out, HV.out]
                exact ⟨none, 0, rfl, Nat.le_refl _, OwnR.none_, hcf.out _⟩
            · have hnd : dealB (madeRows L) = false := by
                cases hh : dealB (madeRows L) with
                | false => rfl
                | true => have := HMF.out.1 hh t htl; omega
              have HE : Hid (dohE L = 5) := by show _ = _; simp [dohE, hHL.out, hnd]
              have HV : Hid (dohV L = []) := by show _ = _; simp [dohV, hnd]
              have hDD := Lib.hid (hD.out.still hcw.out)
              have p1 := fun qq => (show BoxAt (wr.drewN qq) _ _ _ from hDD.out).c
              have f1 := fun qq => (show BoxAt (wr.drewN qq) _ _ _ from hDD.out).f
              have hret := fun qq u => (show BoxAt (wr.drewN qq) _ _ _ from hDD.out).ret u
              have hcf := Lib.hid (fun qq => ((hch.out.trans hcw.out).trans (Chg.drewN wr qq 0 0)).cell (g := w.heap.size) (i := 0) (v := .slice none 0 0) (Nat.le_refl _))
              clear hnd
              have heI : ((F t : Int) == (F 0 : Int)) = false := by simp; omega
              have heJ : ((F t : Int) != (F 0 : Int)) = true := by simp; omega
              obtain ⟨m, hm⟩ : ∃ m, F t = m := ⟨_, rfl⟩
              rw [hm] at ct hb1 heI heJ
              obtain ⟨m0, hm0⟩ : ∃ m0, F 0 = m0 := ⟨_, rfl⟩
              rw [hm0] at cz hb2 heI heJ
              clear hm hm0
              clear he
              go_wp2_with fail
              go_quiet (fail)
              go_wp2_with fail
              (try simp only [Exit.inBlock, Exit.then])
              refine bodyPost_ret (v := .tuple #[.agg #[.slice none 0 0], .int .i64 5]) (by simp [results, Try.results16, go_sem, hret]; try rfl) rfl ?_
              rw [HE.out, HV.out]
              exact ⟨none, 0, rfl, Nat.le_refl _, OwnR.none_, hcf.out _⟩
          · obtain rfl : t = 4 := by omega
            have hdl : dealB (madeRows L) = true := HMF.out.2 hgood.out
            have HE : Hid (dohE L = 0) := by show _ = _; simp [dohE, hHL.out, hdl]
            have HV : Hid (dohV L = madeRows L) := by show _ = _; simp [dohV, hHL.out, hdl]
            have hDD := Lib.hid (hD.out.still hcw.out)
            have hk := Lib.hid (hch.out.trans hcw.out)
            clear hdl
            go_wp2_with fail
            refine (l05Made _ c L lo hi _ (h.still hk.out) HHL.out).mono ?_
            rintro e w3 ⟨A3, c3, rfl, hc3, own3, ch3⟩
            have hm4 : (madeRows L).length = 4 := rfl
            have HM4 := Lib.hid hm4
            rw [hm4] at own3 hc3 ⊢
            have HO := Lib.hid own3
            have E3 := Lib.hid (hDD.out.still ch3)
            have z2 := Lib.hid (Nat.lt_of_lt_of_le hDD.out.lt (Nat.le_refl _))
            have p1 := E3.out.c
            have f1 := E3.out.f
            have hret := fun u => E3.out.ret u
            have hcf := Lib.hid ((hk.out.trans ch3).cell (g := w.heap.size) (i := 0) (v := .slice A3 4 c3) (Nat.le_refl _))
            have hst : Hid (Chg w3 (w3.setCell ⟨w.heap.size, 0, none⟩ (.slice A3 4 c3)) w.heap.size (w.heap.size + 1)) := (Chg.refl _ _ _).store (Nat.le_refl _) (by omega) _
            clear own3 ch3 hm4
            go_wp2_with fail
            (try simp only [Exit.inBlock, Exit.then])
            refine bodyPost_ret (v := .tuple #[.agg #[.slice A3 4 c3], .int .i64 0]) (by simp [results, Try.results16, go_sem, hret]; try rfl) rfl ?_
            rw [HE.out, HV.out]
            refine ⟨A3, c3, by rw [HM4.out], by rw [HM4.out]; exact hc3, ?_, hcf.out⟩
            rw [HM4.out]
            exact (HO.out.chg hst.out (.inr z2.out)).more (Nat.le_of_lt z2.out) hst.out.size
  · have hne : ((n : Int) == 4) = false := by simp; omega
    have hne2 : ((n : Int) != 4) = true := by simp; omega
    obtain ⟨he, hv⟩ := doh_no (hlB_len (L := L) (by omega))
    have HE := Lib.hid he
    have HV := Lib.hid hv
    have p1 := D0.out.c
    have f1 := D0.out.f
    clear he hv hz
    go_enter Try.func16, Try.ntmps16
    go_wp2_with fail
    (try simp only [Exit.inBlock, Exit.then])
    refine bodyPost_ret (v := .tuple #[.agg #[.slice none 0 0], .int .i64 1]) (by simp [results, Try.results16, go_sem]; try rfl) rfl ?_
    rw [HE.out, HV.out]
    exact ⟨none, 0, rfl, Nat.le_refl _, OwnR.none_, ca.out⟩

end Go.Proofs.Ytdfmkikngifjmaa.Lib1
