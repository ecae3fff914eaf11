/- Chapter 5: the model's l05Group, GroupsOf, EquivalentCards. (Written by wip/gen5g.py.) -/
import Derived.Test.YtacdhkhkifoeaaaGrp5
namespace Go.Proofs.Ytacdhkhkifoeaaa.Lib1
open Go.RowKit
set_option maxRecDepth 100000

set_option maxHeartbeats 500000 in
/-- spec.l05Group -/
theorem l05Group (A : Option Addr) (n c : Nat) (x : Int) (zss : List (List Int)) (lo hi : Nat) (w : World) (h : RdR w lo hi A n zss) (hn : n ≤ 1048576) (hl : ∀ j, j < n → (zss.getD j []).length ≤ 1048576) (x0 : 0 ≤ x) (x1 : x ≤ 51) (hx0 : Hid (0 ≤ holderF zss x)) :
    Calls Try.prog 72 #[.agg #[.slice A n c], .int .i64 x] w (RetV w (grpF (holderF zss) x)) := by
  obtain ⟨q, hq⟩ : ∃ q : Int, x / 13 = q := ⟨_, rfl⟩
  obtain ⟨r, hr⟩ : ∃ r : Nat, x = q * 13 + (r : Int) := ⟨(x % 13).toNat, by omega⟩
  have hr1 : r ≤ 12 := by omega
  have hG : Hid (grpF (holderF zss) x = downL (holderF zss) (holderF zss x) r (x - 1) ++ x :: upL (holderF zss) (holderF zss x) (12 - r) (x + 1)) := by
    show _ = _
    rw [grpF, show (x % 13).toNat = r by omega, show (12 - x % 13).toNat = 12 - r by omega]
  have hqt : x.tdiv 13 = q := by rw [Int.tdiv_eq_ediv_of_nonneg x0]; exact hq
  have q0 : 0 ≤ q := by omega
  have q1 : q ≤ 3 := by omega
  have HR := Lib.hid hr
  clear hq hr
  have hbx := box_at w (.slice A n c) 26
  have HBX0 := Lib.hid hbx
  have ca := Lib.hid (Chg.of_alloc w (.cells #[.slice A n c] 26) 0 0)
  go_enter Try.func72, Try.ntmps72
  go_wp2_with fail
  refine (l03Holder A n c x zss lo hi _ (h.still ca.out) hn hl).mono ?_
  rintro e w1 ⟨rfl, c1⟩
  obtain ⟨s, hs⟩ : ∃ s, holderF zss x = s := ⟨_, rfl⟩
  rw [hs] at hG hx0 ⊢
  have HSE := Lib.hid hs
  clear hs
  have hca := Lib.hid (ca.out.trans c1)
  have HBX := Lib.hid (box_still HBX0.out c1)
  have hb1 := Lib.hid hca.out.to_below
  have hz1 := Lib.hid hca.out.size
  have hnew := OwnV.new w1 [x] #[.int .i64 x] rfl (by simp) (Nat.le_refl _)
  have hbn := (Below.refl w1.heap.size w1).alloc (Nat.le_refl _) (.cells #[.int .i64 x] 2)
  clear c1 hbx
  go_wp2_with fail
  go_loopw [6, 7] (fun v u wr => ∃ (j : Nat) (y : Int) (L : List Int), u = .int .i64 y ∧ Hid (y = q * 13 + (j : Int) - 1) ∧ j ≤ 12 ∧ OwnV wr w1.heap.size v L ∧ Hid (downL (holderF zss) (s) r (x - 1) ++ [x] = downL (holderF zss) (s) j y ++ L) ∧ Below w1.heap.size w1 wr ∧ L.length + j + (12 - r) ≤ 13) (fun _ u _ => (intOf u + 1 - q * 13).toNat)
  case atStart => exact ⟨r, x - 1, [x], rfl, by have := HR.out; show _ = _; omega, by omega, hnew, rfl, hbn, by simp; omega⟩
  case round =>
    clear hnew hbn
    obtain ⟨j, y, L, rfl, hy, hj, ho, hE0, hb, hLl⟩ := hrel
    have hq0 := hy.out
    cases j with
    | zero =>
      have hge : ¬ q * 13 ≤ y := by omega
      have hge2 : y < q * 13 := by omega
      have hE : Hid (downL (holderF zss) (s) r (x - 1) ++ [x] = L) := by show _ = _; rw [hE0.out, downL, List.nil_append]
      have hLl : L.length + (12 - r) ≤ 13 := by omega
      clear hE0 hq0 hy
      go_wp2
      go_loopw [6, 9] (fun v u wr => ∃ (j : Nat) (y : Int) (L : List Int), u = .int .i64 y ∧ Hid (y = q * 13 + 13 - (j : Int)) ∧ j ≤ 12 ∧ OwnV wr w1.heap.size v L ∧ Hid (grpF (holderF zss) x = L ++ upL (holderF zss) (s) j y) ∧ Below w1.heap.size w1 wr ∧ L.length + j ≤ 13) (fun _ u _ => (q * 13 + 13 - intOf u).toNat)
      case atStart => exact ⟨12 - r, x + 1, L, rfl, by have := HR.out; show _ = _; omega, by omega, ho, by show _ = _; rw [hG.out, ← hE.out, List.append_assoc]; rfl, hb, hLl⟩
      case round =>
        clear ho hb hE hLl
        obtain ⟨j, y, L, rfl, hy, hj, ho, hE, hb, hLl⟩ := hrel
        have hq0 := hy.out
        cases j with
        | zero =>
          have hge : ¬ y < q * 13 + 13 := by omega
          have hge2 : q * 13 + 13 ≤ y := by omega
          have hF : Hid (grpF (holderF zss) x = L) := by show _ = _; rw [hE.out, upL, List.append_nil]
          clear hE hq0 hy
          go_wp2
          go_ret
          exact ⟨_, rfl, by rw [hF.out]; exact ho.more hz1.out, hb1.out.trans (hb.mono hz1.out)⟩
        | succ j =>
          have hlt2 : y < q * 13 + 13 := by omega
          have y0 : 0 ≤ y := by omega
          have y1 : y ≤ 51 := by omega
          clear hq0
          have hbx := box_still HBX.out (Chg.of_below hb 0 0)
          have hrd := h.still (hca.out.trans (Chg.of_below hb 0 0))
          have hu : Hid (upL (holderF zss) (s) (j + 1) y = if 0 ≤ holderF zss y ∧ holderF zss y ≠ s then [] else (if holderF zss y = s then [y] else []) ++ upL (holderF zss) (s) j (y + 1)) := rfl
          have hll : L.length ≤ 1048576 := by omega
          have hwb := hb.size
          have hrange := holder_cases zss y
          go_wp2_with fail
          refine (l03Holder A n c y zss lo hi _ hrd hn hl).mono ?_
          rintro e w2 ⟨rfl, c2⟩
          have o2 := ho.chg c2 (Nat.zero_le _)
          have b2 := hb.trans (c2.to_below.mono hwb)
          have z2 := Nat.le_trans hwb c2.size
          clear ho hb c2 hrd hbx
          generalize holderF zss y = hv at hu hrange
          by_cases hfo : 0 ≤ hv ∧ hv ≠ s
          · have f0 := hfo.1
            have fne : (hv == s) = false := by simpa using hfo.2
            have fne' : ¬ hv = s := hfo.2
            have hF : Hid (grpF (holderF zss) x = L) := by show _ = _; rw [hE.out, hu.out, if_pos hfo, List.append_nil]
            have ho := o2
            have hb := b2
            clear hE hy hu hfo o2 b2
            go_wp2
            go_ret
            exact ⟨_, rfl, by rw [hF.out]; exact ho.more hz1.out, hb1.out.trans (hb.mono hz1.out)⟩
          · by_cases he : hv = s
            · have he' := he.symm
              subst he'
              have hE2 : Hid (grpF (holderF zss) x = (L ++ [y]) ++ upL (holderF zss) s j (y + 1)) := by show _ = _; rw [hE.out, hu.out, if_neg hfo, if_pos rfl, ← List.append_assoc]
              have hp0 : 0 ≤ s := hx0.out
              clear hE hu hfo
              go_wp2_with (at_builtin; refine wpList_push rfl (.tmp 65) (.tmp 67) rfl w1.heap.size _ L (by rfl) o2 y (by rfl) hll z2 ?_; intro v3 w3 o3 b3)
              have b4 := b2.trans b3
              clear b2 b3 o2
              go_roundw
              case rel => exact ⟨j, y + 1, L ++ [y], rfl, by have := hy.out; show _ = _; omega, by omega, o3, hE2, b4, by rw [List.length_append, List.length_singleton]; omega⟩
              case measure => simp [intOf]; omega
            · have hm : hv = -1 := by omega
              subst hm
              have fne : ((-1 : Int) == s) = false := by simpa using he
              have hE2 : Hid (grpF (holderF zss) x = L ++ upL (holderF zss) s j (y + 1)) := by show _ = _; rw [hE.out, hu.out, if_neg hfo, if_neg he, List.nil_append]
              clear hE hu hfo
              go_wp2_with fail
              go_roundw
              case rel => exact ⟨j, y + 1, L, rfl, by have := hy.out; show _ = _; omega, by omega, o2, hE2, b2, by omega⟩
              case measure => simp [intOf]; omega
    | succ j =>
      have hlt2 : q * 13 ≤ y := by omega
      have y0 : 0 ≤ y := by omega
      have y1 : y ≤ 51 := by omega
      clear hq0
      have hbx := box_still HBX.out (Chg.of_below hb 0 0)
      have hrd := h.still (hca.out.trans (Chg.of_below hb 0 0))
      have hu : Hid (downL (holderF zss) (s) (j + 1) y = if 0 ≤ holderF zss y ∧ holderF zss y ≠ s then [] else downL (holderF zss) (s) j (y - 1) ++ (if holderF zss y = s then [y] else [])) := rfl
      have hll : L.length ≤ 1048575 := by omega
      have hwb := hb.size
      have hrange := holder_cases zss y
      go_wp2_with fail
      refine (l03Holder A n c y zss lo hi _ hrd hn hl).mono ?_
      rintro e w2 ⟨rfl, c2⟩
      have o2 := ho.chg c2 (Nat.zero_le _)
      have b2 := hb.trans (c2.to_below.mono hwb)
      have z2 := Nat.le_trans hwb c2.size
      clear ho hb c2 hrd hbx
      generalize holderF zss y = hv at hu hrange
      by_cases hfo : 0 ≤ hv ∧ hv ≠ s
      · have f0 := hfo.1
        have fne : (hv == s) = false := by simpa using hfo.2
        have fne' : ¬ hv = s := hfo.2
        have fnb : (hv != s) = true := by simpa using hfo.2
        have hE : Hid (downL (holderF zss) (s) r (x - 1) ++ [x] = L) := by show _ = _; rw [hE0.out, hu.out, if_pos hfo, List.nil_append]
        have hLl : L.length + (12 - r) ≤ 13 := by omega
        have ho := o2
        have hb := b2
        clear hE0 hy hu hfo o2 b2
        go_wp2
        go_loopw [6, 9] (fun v u wr => ∃ (j : Nat) (y : Int) (L : List Int), u = .int .i64 y ∧ Hid (y = q * 13 + 13 - (j : Int)) ∧ j ≤ 12 ∧ OwnV wr w1.heap.size v L ∧ Hid (grpF (holderF zss) x = L ++ upL (holderF zss) (s) j y) ∧ Below w1.heap.size w1 wr ∧ L.length + j ≤ 13) (fun _ u _ => (q * 13 + 13 - intOf u).toNat)
        case atStart => exact ⟨12 - r, x + 1, L, rfl, by have := HR.out; show _ = _; omega, by omega, ho, by show _ = _; rw [hG.out, ← hE.out, List.append_assoc]; rfl, hb, hLl⟩
        case round =>
          clear f0 fne fne'
          clear ho hb hE hLl
          obtain ⟨j, y, L, rfl, hy, hj, ho, hE, hb, hLl⟩ := hrel
          have hq0 := hy.out
          cases j with
          | zero =>
            have hge : ¬ y < q * 13 + 13 := by omega
            have hge2 : q * 13 + 13 ≤ y := by omega
            have hF : Hid (grpF (holderF zss) x = L) := by show _ = _; rw [hE.out, upL, List.append_nil]
            clear hE hq0 hy
            go_wp2
            go_ret
            exact ⟨_, rfl, by rw [hF.out]; exact ho.more hz1.out, hb1.out.trans (hb.mono hz1.out)⟩
          | succ j =>
            have hlt2 : y < q * 13 + 13 := by omega
            have y0 : 0 ≤ y := by omega
            have y1 : y ≤ 51 := by omega
            clear hq0
            have hbx := box_still HBX.out (Chg.of_below hb 0 0)
            have hrd := h.still (hca.out.trans (Chg.of_below hb 0 0))
            have hu : Hid (upL (holderF zss) (s) (j + 1) y = if 0 ≤ holderF zss y ∧ holderF zss y ≠ s then [] else (if holderF zss y = s then [y] else []) ++ upL (holderF zss) (s) j (y + 1)) := rfl
            have hll : L.length ≤ 1048576 := by omega
            have hwb := hb.size
            have hrange := holder_cases zss y
            go_wp2_with fail
            refine (l03Holder A n c y zss lo hi _ hrd hn hl).mono ?_
            rintro e w2 ⟨rfl, c2⟩
            have o2 := ho.chg c2 (Nat.zero_le _)
            have b2 := hb.trans (c2.to_below.mono hwb)
            have z2 := Nat.le_trans hwb c2.size
            clear ho hb c2 hrd hbx
            generalize holderF zss y = hv at hu hrange
            by_cases hfo : 0 ≤ hv ∧ hv ≠ s
            · have f0 := hfo.1
              have fne : (hv == s) = false := by simpa using hfo.2
              have fne' : ¬ hv = s := hfo.2
              have hF : Hid (grpF (holderF zss) x = L) := by show _ = _; rw [hE.out, hu.out, if_pos hfo, List.append_nil]
              have ho := o2
              have hb := b2
              clear hE hy hu hfo o2 b2
              go_wp2
              go_ret
              exact ⟨_, rfl, by rw [hF.out]; exact ho.more hz1.out, hb1.out.trans (hb.mono hz1.out)⟩
            · by_cases he : hv = s
              · have he' := he.symm
                subst he'
                have hE2 : Hid (grpF (holderF zss) x = (L ++ [y]) ++ upL (holderF zss) s j (y + 1)) := by show _ = _; rw [hE.out, hu.out, if_neg hfo, if_pos rfl, ← List.append_assoc]
                have hp0 : 0 ≤ s := hx0.out
                clear hE hu hfo
                go_wp2_with (at_builtin; refine wpList_push rfl (.tmp 65) (.tmp 67) rfl w1.heap.size _ L (by rfl) o2 y (by rfl) hll z2 ?_; intro v3 w3 o3 b3)
                have b4 := b2.trans b3
                clear b2 b3 o2
                go_roundw
                case rel => exact ⟨j, y + 1, L ++ [y], rfl, by have := hy.out; show _ = _; omega, by omega, o3, hE2, b4, by rw [List.length_append, List.length_singleton]; omega⟩
                case measure => simp [intOf]; omega
              · have hm : hv = -1 := by omega
                subst hm
                have fne : ((-1 : Int) == s) = false := by simpa using he
                have hE2 : Hid (grpF (holderF zss) x = L ++ upL (holderF zss) s j (y + 1)) := by show _ = _; rw [hE.out, hu.out, if_neg hfo, if_neg he, List.nil_append]
                clear hE hu hfo
                go_wp2_with fail
                go_roundw
                case rel => exact ⟨j, y + 1, L, rfl, by have := hy.out; show _ = _; omega, by omega, o2, hE2, b2, by omega⟩
                case measure => simp [intOf]; omega
      · by_cases he : hv = s
        · have he' := he.symm
          subst he'
          have hE2 : Hid (downL (holderF zss) s r (x - 1) ++ [x] = downL (holderF zss) s j (y - 1) ++ ([y] ++ L)) := by show _ = _; rw [hE0.out, hu.out, if_neg hfo, if_pos rfl, ← List.append_assoc]
          have hp0 : 0 ≤ s := hx0.out
          obtain ⟨A2, c2', ev, _, hpl, own2⟩ := o2.form
          subst ev
          have hnw := Lib.hid (OwnV.new w2 [y] #[.int .i64 y] rfl (by simp) z2)
          have hrr := own2.rd.still (Chg.of_alloc w2 (.cells #[.int .i64 y] 2) 0 0)
          have hza : w1.heap.size ≤ (w2.alloc (.cells #[.int .i64 y] 2)).heap.size := by simp; omega
          have hba := Lib.hid ((Below.refl w1.heap.size w2).alloc z2 (.cells #[.int .i64 y] 2))
          have hl1 : [y].length + L.length ≤ 1048576 := by simp; omega
          clear hE0 hu hfo o2 own2
          go_wp2_with (at_builtin; refine wpList_cat rfl (.tmp 39) (.tmp 40) rfl w1.heap.size _ [y] (by rfl) hnw.out _ _ A2 L.length c2' L (by rfl) (plain_nil hpl) hrr hl1 hza ?_; intro v3 w3 o3 b3)
          have b4 := (b2.trans hba.out).trans b3
          clear b2 b3 hrr hnw
          go_roundw
          case rel => exact ⟨j, y - 1, [y] ++ L, rfl, by have := hy.out; show _ = _; omega, by omega, o3, hE2, b4, by rw [List.length_append, List.length_singleton]; omega⟩
          case measure => simp [intOf]; omega
        · have hm : hv = -1 := by omega
          subst hm
          have fne : ((-1 : Int) == s) = false := by simpa using he
          have hE2 : Hid (downL (holderF zss) s r (x - 1) ++ [x] = downL (holderF zss) s j (y - 1) ++ L) := by show _ = _; rw [hE0.out, hu.out, if_neg hfo, if_neg he, List.append_nil]
          clear hE0 hu hfo
          go_wp2_with fail
          go_roundw
          case rel => exact ⟨j, y - 1, L, rfl, by have := hy.out; show _ = _; omega, by omega, o2, hE2, b2, by omega⟩
          case measure => simp [intOf]; omega

end Go.Proofs.Ytacdhkhkifoeaaa.Lib1
