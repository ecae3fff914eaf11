/- Chapter 5: the model's l05Less. -/
import Derived.Test.YteojdlacdnfgiaaOrdS5
import Derived.Test.YteojdlacdnfgiaaMadeS5
import Derived.Deep.QuietTactic
import Derived.BigQuiet
namespace Go.Proofs.Yteojdlacdnfgiaa.Lib1
open Go.RowKit
set_option maxRecDepth 100000

theorem less_at {zss yss : List (List Int)} {s i : Nat} (h4 : s < zss.length) (h4' : s < yss.length) (hi : i < (zss.getD s []).length) (hi' : i < (yss.getD s []).length) (e : cardsTo zss s i = cardsTo yss s i) (hne : (zss.getD s []).getD i 0 ≠ (yss.getD s []).getD i 0) :
    lessB zss yss = decide ((zss.getD s []).getD i 0 < (yss.getD s []).getD i 0) := by
  obtain ⟨r, hr⟩ := cardsTo_prefix h4 hi
  obtain ⟨r', hr'⟩ := cardsTo_prefix h4' hi'
  unfold lessB
  rw [hr, hr', e, lex_prefix, lexB, if_neg hne]
theorem less_end {zss yss : List (List Int)} (h4 : zss.length = 4) (h4' : yss.length = 4) (e : cardsTo zss 4 0 = cardsTo yss 4 0) : lessB zss yss = false := by
  rw [cardsTo_all h4, cardsTo_all h4'] at e
  unfold lessB
  rw [e]; exact lex_irrefl _

set_option maxHeartbeats 4000000 in
/-- spec.l05Less, at deals whose hands are equally long. -/
theorem l05Less (A : Option Addr) (c : Nat) (zss : List (List Int)) (lo hi : Nat) (A' : Option Addr) (c' : Nat) (yss : List (List Int)) (lo' hi' : Nat) (w : World) (h : RdR w lo hi A 4 zss) (h' : RdR w lo' hi' A' 4 yss)
    (hl : ∀ j, j < 4 → (zss.getD j []).length = (yss.getD j []).length) (hm : ∀ j, j < 4 → (zss.getD j []).length ≤ 52) :
    Calls Try.prog 76 #[.agg #[.slice A 4 c], .agg #[.slice A' 4 c']] w fun e w' => e = .returned (.bool (lessB zss yss)) ∧ Chg w w' 0 0 := by
  have c2 := Lib.hid ((Chg.of_alloc w (.cells #[.slice A 4 c] 36) 0 0).trans (Chg.of_alloc _ (.cells #[.slice A' 4 c'] 36) 0 0))
  have B0 := Lib.hid ((BoxAt.new w (.slice A 4 c) 36 rfl).alloc (.cells #[.slice A' 4 c'] 36))
  have B1 := Lib.hid (BoxAt.new (w.alloc (.cells #[.slice A 4 c] 36)) (.slice A' 4 c') 36 (g := w.heap.size + 1) (by simp))
  have H4 := Lib.hid h.1
  have H4' := Lib.hid h'.1
  have HL := Lib.hid hl
  have HM := Lib.hid hm
  clear hl hm
  go_enter Try.func76, Try.ntmps76
  go_wp2_with fail
  generalize (w.alloc (.cells #[.slice A 4 c] 36)).alloc (.cells #[.slice A' 4 c'] 36) = W at c2 B0 B1 ⊢
  go_loopw [5] (fun i wr => ∃ s : Nat, s ≤ 4 ∧ i = .int .i64 s ∧ Hid (cardsTo zss s 0 = cardsTo yss s 0) ∧ Hid (Chg W wr 0 0)) (fun i _ => 4 - (intOf i).toNat)
  case atStart => exact ⟨0, by omega, rfl, by show _ = _; rw [cardsTo_zero, cardsTo_zero], Chg.refl _ _ _⟩
  case round =>
    obtain ⟨s, hs, rfl, hc, hw⟩ := hrel
    by_cases hlt : s < 4
    · have hsI : (s : Int) < 4 := by omega
      obtain ⟨b, off, B, C, rfl, _, _, hcw, hrw, _, _⟩ := h.at_ hlt
      obtain ⟨b', off', B', C', rfl, _, _, hcw', hrw', _, _⟩ := h'.at_ hlt
      have KC := Lib.hid hcw
      have KR := Lib.hid hrw
      have KC' := Lib.hid hcw'
      have KR' := Lib.hid hrw'
      have hls := Lib.hid (HL.out s hlt)
      have hms := Lib.hid (HM.out s hlt)
      have hat := Lib.hid (fun i hi hi' e hne => less_at (zss := zss) (yss := yss) (s := s) (i := i) (by have := H4.out; omega) (by have := H4'.out; omega) hi hi' e hne)
      have hsu := Lib.hid (fun i hi => cardsTo_succ (zss := zss) (s := s) (i := i) hi)
      have hsu' := Lib.hid (fun i hi => cardsTo_succ (zss := yss) (s := s) (i := i) hi)
      have hnx := Lib.hid (cardsTo_next (zss := zss) (s := s) (by have := H4.out; omega))
      have hnx' := Lib.hid (cardsTo_next (zss := yss) (s := s) (by have := H4'.out; omega))
      clear hcw hrw hcw' hrw'
      generalize zss.getD s [] = row at KC KR hls hms hat hsu hnx
      generalize yss.getD s [] = row' at KC' KR' hls hat hsu' hnx'
      have hrl : row.length = row'.length := hls.out
      have hr52 : row.length ≤ 52 := hms.out
      go_wp2_with fail
      obtain ⟨wo, hwo⟩ : ∃ wo, wo = wr := ⟨wr, rfl⟩
      subst hwo
      go_loopw [6] (fun i wr => ∃ k : Nat, k ≤ row.length ∧ i = .int .i64 k ∧ Hid (cardsTo zss s k = cardsTo yss s k) ∧ Hid (Chg W wr 0 0)) (fun i _ => row.length - (intOf i).toNat)
      case atStart => exact ⟨0, Nat.zero_le _, rfl, hc, hw⟩
      case round =>
        clear hw hc
        obtain ⟨k, hk, rfl, hc, hw⟩ := hrel
        have cw := c2.out.trans hw.out
        have p0 := (B0.out.still hw.out).c
        have p1 := (B1.out.still hw.out).c
        have q0 := box_still KC.out cw
        have q1 := box_still KC'.out cw
        by_cases hkl : k < row.length
        · have hkI : (k : Int) < (row.length : Int) := by omega
          have hkJ : (k : Int) < (row'.length : Int) := by omega
          obtain ⟨rb, ro, rfl, _, _, hrc⟩ := (KR.out.still cw).2 (by omega)
          obtain ⟨rb', ro', rfl, _, _, hrc'⟩ := (KR'.out.still cw).2 (by omega)
          have q2 := hrc k hkl
          have q3 := hrc' k (by omega)
          have HA := Lib.hid (fun hne => hat.out k hkl (by omega) hc.out hne)
          have HS : Hid (row.getD k 0 = row'.getD k 0 → cardsTo zss s (k + 1) = cardsTo yss s (k + 1)) := fun e => by
            rw [hsu.out k hkl, hsu'.out k (by omega), hc.out, e]
          clear hrc hrc'
          generalize row.getD k 0 = x at q2 HA HS
          generalize row'.getD k 0 = y at q3 HA HS
          by_cases e : x = y
          · subst e
            have hn := Lib.hid (HS.out rfl)
            clear HA
            go_wp2_with fail
            go_quiet (fail)
            go_wp2_with fail
            go_roundw
            case rel => exact ⟨k + 1, by omega, by go_num, hn, hw.out.trans (Chg.drewN _ _ 0 0)⟩
            case measure => simp [intOf]; omega
          · have hf := Lib.hid (HA.out e)
            have e1 : (x == y) = false := by simpa using e
            have e2 : (x != y) = true := by simpa using e
            clear HA HS hsu hsu' hat
            go_wp2_with fail
            go_quiet (fail)
            go_wp2_with fail
            go_quiet (fail)
            go_wp2_with fail
            go_ret
            exact ⟨by rw [hf.out]; rfl, cw.trans ((Chg.drewN _ _ 0 0).trans (Chg.drewN _ _ 0 0))⟩
        · obtain rfl : k = row.length := by omega
          have hn : Hid (cardsTo zss (s + 1) 0 = cardsTo yss (s + 1) 0) := by show _ = _; rw [← hnx.out, ← hnx'.out, hc.out, hrl]
          clear hsu hsu' hat
          go_wp2_with fail
          go_roundw
          case rel => exact ⟨s + 1, by omega, by go_num, hn, hw⟩
          case measure => simp [intOf]; omega
    · obtain rfl : s = 4 := by omega
      have hf := Lib.hid (less_end H4.out H4'.out hc.out)
      go_wp2_with fail
      go_ret
      exact ⟨by rw [hf.out]; rfl, c2.out.trans hw.out⟩

end Go.Proofs.Yteojdlacdnfgiaa.Lib1
