/- Chapter 5: the draws of a strain and of a deal with it; the law FnCanonicalDeal. -/
import Derived.Test.YteojdlacdnfgiaaDraw5
import Derived.Test.YteojdlacdnfgiaaDice
import Derived.Test.YteojdlacdnfgiaaSuI5
import Derived.Test.YteojdlacdnfgiaaCanT5
namespace Go.Proofs.Yteojdlacdnfgiaa.Lib1
open Go.RowKit
set_option maxRecDepth 100000

/-- spec.l05DrawStrain -/
theorem l05DrawStrain (g : Nat) (w : World) (h : Src w g) : Calls Try.prog 59 #[.pointer (some ⟨g, 0, none⟩)] w (Drew g w fun _ => True) := by
  go_enter Try.func59, Try.ntmps59
  go_wp2_with fail
  refine (l01Next g 16 _ h (by omega)).mono ?_
  rintro e w1 ⟨r, rfl, ⟨r0, _⟩, s1, c1⟩
  by_cases hr : r = 0
  · subst hr
    go_wp2_with fail
    refine (l01Next g 2 _ s1 (by omega)).mono ?_
    rintro e w2 ⟨r2, rfl, ⟨r20, r21⟩, s2, c2⟩
    have r22 := r21 (by omega)
    go_wp2_with fail
    go_ret
    exact ⟨_, rfl, trivial, s2, c1.trans c2⟩
  · have hrb : (r == 0) = false := by simpa using hr
    go_wp2_with fail
    refine (l01Next g 5 _ s1 (by omega)).mono ?_
    rintro e w2 ⟨r2, rfl, _, s2, c2⟩
    go_wp2_with fail
    go_ret
    exact ⟨_, rfl, trivial, s2, c1.trans c2⟩
/-- A deal and a strain were drawn. -/
def DrewDS (w : World) (e : Ending) (w' : World) : Prop :=
  ∃ A n c zss x, e = .returned (.tuple #[.agg #[.slice A n c], .int .i64 x]) ∧ n ≤ 4 ∧ n ≤ c ∧ RdR w' w.heap.size w'.heap.size A n zss ∧ Rows15 zss ∧ Below w.heap.size w w'
theorem ds_end {w W : World} {A : Option Addr} {n c : Nat} {zss : List (List Int)} {x : Int} {V : Value} (hn : n ≤ 4) (hc : n ≤ c) (rd : RdR W (w.heap.size + 1) W.heap.size A n zss) (h15 : Rows15 zss) (b : Below w.heap.size w W) :
    DrewDS w (.returned (.tuple #[.agg #[.slice A n c], .int .i64 x])) (W.setCell ⟨w.heap.size, 0, none⟩ V) := by
  have st : Chg W (W.setCell ⟨w.heap.size, 0, none⟩ V) w.heap.size (w.heap.size + 1) := (Chg.refl _ _ _).store (Nat.le_refl _) (by show w.heap.size < w.heap.size + 1; omega) _
  exact ⟨A, n, c, zss, x, rfl, hn, hc, (rd.chg st (.inr (Nat.le_refl _))).more (by omega) st.size, h15, Below.setAt b (Nat.le_refl _)⟩

set_option maxHeartbeats 2000000 in
/-- spec.DrawCanonicalDeal -/
theorem DrawCanonicalDeal (A : Option Addr) (n c : Nat) (w : World) (h : Bytes w A n) (hn : n ≤ 1048576) : Calls Try.prog 24 #[.slice A n c] w (DrewDS w) := by
  have ca := Lib.hid (Chg.of_alloc w (.cells #[.slice none 0 0] 36) 0 0)
  have R0 := Lib.hid (BoxAt.new w (.slice none 0 0) 36 rfl)
  have hB0 := Lib.hid (h.chg (ca.out.any w.heap.size w.heap.size))
  have hz0 : Hid ((w.alloc (.cells #[.slice none 0 0] 36)).heap.size = w.heap.size + 1) := by show _ = _; simp
  go_enter Try.func24, Try.ntmps24
  go_wp2_with fail
  generalize w.alloc (.cells #[.slice none 0 0] 36) = w0 at ca R0 hB0 hz0
  refine (l01From A n c _ hB0.out hn).mono ?_
  rintro e w1 ⟨rfl, s1, b1⟩
  generalize hgq : w0.heap.size = g at s1 b1
  have hg : Hid (g = w.heap.size + 1) := by show _ = _; rw [← hgq]; exact hz0.out
  have R1 := Lib.hid (show BoxAt w1 w.heap.size (.slice none 0 0) 36 from (b1.block _ (by have := hg.out; omega)).trans R0.out)
  have B1 := Lib.hid ((ca.out.to_below).trans (b1.mono (by have := hg.out; omega)))
  have l1 := Lib.hid s1.lt
  clear R0 hB0 b1 ca hz0
  have HG := Lib.hid hgq
  clear hgq
  go_wp2_with fail
  refine (l05Draw g _ s1).mono ?_
  rintro e w3 ⟨A3, n3, c3, zss, rfl, hn3, hc3, rd3, h15, s3, k3⟩
  have R3 := Lib.hid (R1.out.far k3 (by have := hg.out; omega))
  have B3 := Lib.hid (Chg.above B1.out k3 B1.out.size (.inl (by have := hg.out; omega)))
  have RD3 := Lib.hid rd3
  have H15 := Lib.hid h15
  clear R1 B1 k3 s1 rd3 h15
  go_wp2_with fail
  refine (l05DrawStrain g _ s3).mono ?_
  rintro e w4 ⟨r4, rfl, _, s4, k4⟩
  have R4 := Lib.hid (R3.out.far k4 (by have := hg.out; omega))
  have B4 := Lib.hid (Chg.above B3.out k4 B3.out.size (.inl (by have := hg.out; omega)))
  have RD4 := Lib.hid (((RD3.out.chg k4 (.inr l1.out)).more (lo' := w.heap.size + 1) (by have := hg.out; have := l1.out; omega) k4.size))
  have p1 := R4.out.c
  have f1 := R4.out.f
  have hret := fun u => R4.out.ret u
  clear R3 B3 RD3 k4 s3 s4
  go_wp2_with fail
  (try simp only [Exit.inBlock, Exit.then])
  refine bodyPost_ret (v := .tuple #[.agg #[.slice A3 n3 c3], .int .i64 r4]) (by simp [results, Try.results24, go_sem, hret]; try rfl) rfl ?_
  exact ds_end hn3 hc3 RD4.out H15.out B4.out

theorem can_no {zss : List (List Int)} {strain : Int} (h : ¬ canE zss strain = 0) : canV zss strain = [] := by
  cases hd : dealB zss <;> cases hs : inB strain 0 4 <;> simp [canV, hd, hs]
  exact absurd (canE_zero.2 ⟨hd, hs⟩) h

set_option maxHeartbeats 4000000 in
theorem law_Canonical (A : Option Addr) (n c : Nat) (w : World) (h : Bytes w A n) :
    Calls Try.prog 5 #[.slice A n c] w fun e w' => e = .returned (.bool true) ∧ Below w.heap.size w w' := by
  by_cases hbig : 4096 < n
  · have hb : Hid (decide (4096 < n) = true) := by show _ = _; simpa using hbig
    go_enter Try.func5, Try.ntmps5
    go_wp2_with fail
    refine (big _ _ _ _).mono ?_
    rintro e w' ⟨rfl, rfl⟩
    rw [hb.out]
    go_wp2_with fail
    go_ret
    exact ⟨rfl, Below.refl _ _⟩
  have hb : Hid (decide (4096 < n) = false) := by show _ = _; simpa using hbig
  have hn : n ≤ 1048576 := by omega
  clear hbig
  go_enter Try.func5, Try.ntmps5
  go_wp2_with fail
  refine (big _ _ _ _).mono ?_
  rintro e w' ⟨rfl, rfl⟩
  rw [hb.out]
  go_wp2_with fail
  refine (roll A n c 5401 _ h hn).mono ?_
  rintro e w1 ⟨rfl, d1, b1⟩
  have hB1 := h.chg ((Chg.of_below b1 0 0).any w.heap.size w.heap.size)
  obtain ⟨g, hg⟩ : ∃ g, g = w.heap.size := ⟨_, rfl⟩
  rw [← hg] at d1 ⊢
  have HG := Lib.hid hg
  clear hg
  have l1 := Lib.hid d1.lt
  have K1 := Lib.hid b1
  clear h b1
  go_wp2_with fail
  refine (DrawCanonicalDeal A n c _ hB1 hn).mono ?_
  rintro e w2 ⟨A1, n1, c1, zss, s, rfl, hn1, _, rd1, h15', B2⟩
  have h15 := Lib.hid h15'
  have ca := Lib.hid (Chg.of_alloc w2 (.cells #[.slice A1 n1 c1] 36) 0 0)
  have D2 := Lib.hid (BoxAt.new w2 (.slice A1 n1 c1) 36 rfl)
  have K2 := Lib.hid ((K1.out.trans (B2.mono K1.out.size)).trans (ca.out.to_below.mono (Nat.le_trans K1.out.size B2.size)))
  have G2 := Lib.hid ((d1.still (Chg.of_below B2 0 0)).still ca.out)
  have z2 := Lib.hid (Nat.lt_of_lt_of_le l1.out B2.size)
  have RD2 := Lib.hid (rd1.still ca.out)
  have zlo : g + 1 ≤ w1.heap.size := l1.out
  generalize hlo1 : w1.heap.size = lo1 at RD2 zlo
  generalize hhi1 : w2.heap.size = hi1 at RD2
  clear hlo1 hhi1 rd1 B2 h15' hb hB1 d1
  have pd := D2.out.c
  have hl0 := Lib.hid (fun j (_ : j < n1) => (show (zss.getD j []).length ≤ 1048576 by have := h15.out j; omega))
  go_wp2_with fail
  generalize w2.alloc (.cells #[.slice A1 n1 c1] 36) = w3 at ca D2 K2 G2 RD2 pd
  refine (impl_CanonicalDeal A1 n1 c1 s zss lo1 hi1 w3 RD2.out).mono ?_
  rintro e w4 ⟨C, cc, rfl, _, oc, ch4⟩
  obtain ⟨m, hm⟩ : ∃ m, (canV zss s).length = m := ⟨_, rfl⟩
  rw [hm] at oc ⊢
  have HM := Lib.hid hm
  clear hm
  have ca4 := Lib.hid (ch4.trans (Chg.of_alloc w4 (.cells #[.slice C m cc] 36) 0 0))
  have D4 := Lib.hid (D2.out.still ca4.out)
  have E4 := Lib.hid (BoxAt.new w4 (.slice C m cc) 36 rfl)
  have K4 := Lib.hid (K2.out.trans (ca4.out.to_below.mono K2.out.size))
  have G4 := Lib.hid (G2.out.still ca4.out)
  have RD4 := Lib.hid (RD2.out.still ca4.out)
  have OC4 := Lib.hid (oc.rd.still (Chg.of_alloc w4 (.cells #[.slice C m cc] 36) 0 0))
  have zc : g + 1 ≤ w3.heap.size := G2.out.lt
  have zE : g < w4.heap.size := Nat.lt_of_lt_of_le G2.out.lt ch4.size
  clear oc ch4 D2 K2 G2 RD2 pd ca
  by_cases hE : canE zss s = 0
  · obtain ⟨hd, hs⟩ := canE_zero.1 hE
    have hcv : canV zss s = canL zss s := by simp [canV, hd, hs]
    have hcd := Lib.hid (can_deal hd hs)
    obtain rfl : m = 4 := by rw [← HM.out, hcv]; exact ((deal_iff _).1 hcd.out).1
    obtain rfl : n1 = 4 := by rw [← RD4.out.1]; exact ((deal_iff _).1 hd).1
    rw [hcv] at OC4
    rw [hE]
    have hov : Hid (ordV s = ordS s) := by show _ = _; simp [ordV, hs]
    have hol := Lib.hid (ordS_length hs)
    have HOK := Lib.hid (fun to => (mem_ordS s to).1)
    have HPV : Hid (∀ to ∈ ordS s, permV zss to = permD to zss ∧ permE zss to = 0 ∧ canE (permD to zss) s = 0 ∧ canV (permD to zss) s = canL zss s ∧ sameV zss (permD to zss) s = true ∧ (permD to zss).length = 4) := fun to hto => by
      have ht := HOK.out to hto
      have ho := okO_order ht
      have hdp := permD_deal ho hd
      have hcp := can_perm hd hs ht
      refine ⟨permV_is ho hd, permE_is ho hd, canE_zero.2 ⟨hdp, hs⟩, by simp [canV, hdp, hs, hcp], by simp [sameV, hd, hdp, hs, hcp], ((deal_iff _).1 hdp).1⟩
    have HCC : Hid (canE (canL zss s) s = 0 ∧ canV (canL zss s) s = canL zss s) := ⟨canE_zero.2 ⟨hcd.out, hs⟩, by simp [canV, hcd.out, hs, can_can hd hs]⟩
    have HS := Lib.hid hs
    have HD := Lib.hid hd
    have hc13 := Lib.hid (fun j (hj : j < 4) => (show ((canL zss s).getD j []).length ≤ 1048576 by have := deal_row13 hcd.out j hj; omega))
    have hcl : Hid ((canL zss s).length = 4) := ((deal_iff _).1 hcd.out).1
    have hos : Hid (∀ j, ((ordS s).getD j []).length ≤ 4) := ordTo_four s 256
    clear hE hcv hd hs HM
    go_wp2_with fail
    refine (impl_SuitOrders s _).mono ?_
    rintro e w5 ⟨Ao, co, rfl, _, oo, ch5⟩
    rw [hov.out] at oo
    rw [hov.out]
    have K5 := Lib.hid (K4.out.trans (ch5.to_below.mono K4.out.size))
    have D5 := Lib.hid (D4.out.still ch5)
    have E5 := Lib.hid (E4.out.still ch5)
    have G5 := Lib.hid (G4.out.still ch5)
    have RD5 := Lib.hid (RD4.out.still ch5)
    have OC5 := Lib.hid (OC4.out.still ch5)
    have zo : g + 1 ≤ (w4.alloc (.cells #[.slice C 4 cc] 36)).heap.size := Nat.le_trans zE (by simp)
    have RO5 := Lib.hid (oo.rd.more (lo' := g + 1) (hi' := w5.heap.size) zo (Nat.le_refl _))
    generalize ordS s = os at hol HOK HPV hos RO5 ⊢
    clear oo ch5 D4 E4 K4 G4 RD4 OC4 ca4
    obtain ⟨L, hL⟩ : ∃ L, os.length = L := ⟨_, rfl⟩
    have hlen : L = 24 ∧ s = 4 ∨ L = 6 ∧ ¬ s = 4 := by
      have := hol.out
      rw [hL] at this
      split at this
      · exact .inl ⟨this, by assumption⟩
      · exact .inr ⟨this, by assumption⟩
    rw [hL] at RO5 ⊢
    have HL := Lib.hid hL
    have HI := Lib.hid (fun V (k : Chg w5 V g (g + 1)) => impl_CanonicalDeal C 4 cc s (canL zss s) _ _ V (OC5.out.chg k (.inr zc)))
    rw [HCC.out.1, HCC.out.2] at HI
    clear hL hol
    generalize hcan : canL zss s = cz at OC5 HPV HCC hc13 hcl HI
    clear hcan
    obtain ⟨h24, h1L⟩ : L ≤ 24 ∧ 1 ≤ L := by omega
    have e6 : (((L : Int) == 6) = false ∧ ((L : Int) == 24) = true ∧ (s == 4) = true) ∨ (((L : Int) == 6) = true ∧ ((L : Int) == 24) = false ∧ (s == 4) = false) := by
      rcases hlen with ⟨rfl, rfl⟩ | ⟨rfl, h⟩
      · exact .inl ⟨rfl, rfl, rfl⟩
      · exact .inr ⟨rfl, rfl, by simpa using h⟩
    clear hlen
    have tail : ∀ (T : Array Value → Prop), T #[] → True := fun _ _ => trivial
    clear tail
    rcases e6 with ⟨q1, q2, q3⟩ | ⟨q1, q2, q3⟩
    all_goals
      have q4 : ((L : Int) != 6) = !((L : Int) == 6) := rfl
      have q5 : ((L : Int) != 24) = !((L : Int) == 24) := rfl
      rw [q1] at q4
      rw [q2] at q5
      go_wp2_with fail
      refine (below_ g (L : Int) _ G5.out (by omega) (by omega)).mono ?_
      rintro e w6 ⟨r, rfl, r0, r1, G6, k6⟩
      obtain ⟨q, rfl⟩ : ∃ q : Nat, r = (q : Int) := ⟨r.toNat, by omega⟩
      have hqL : q < L := by omega
      have D6 := Lib.hid (D5.out.far k6 (show w2.heap.size ≠ g by have := z2.out; omega))
      have E6 := Lib.hid (E5.out.far k6 (show w4.heap.size ≠ g by omega))
      have K6 := Lib.hid (Chg.above K5.out k6 K5.out.size (.inl (by have := HG.out; omega)))
      have RD6 := Lib.hid (RD5.out.chg k6 (.inr zlo))
      have OC6 := Lib.hid (OC5.out.chg k6 (.inr zc))
      have RO6 := Lib.hid (RO5.out.chg k6 (.inr (Nat.le_refl _)))
      have HI6 := Lib.hid (fun V (k : Chg w6 V 0 0) => HI.out V (k6.trans (k.any _ _)))
      obtain ⟨bo, off, Bq, Cq, rfl, _, _, hcell, hrd, _, _⟩ := RO6.out.at_ hqL
      have hmem : os.getD q [] ∈ os := by rw [getD_row (by rw [HL.out]; exact hqL)]; exact List.getElem_mem _
      obtain ⟨pv, pe, ce, cv, sv, p4⟩ := HPV.out _ hmem
      have hq4 := Lib.hid (hos.out q)
      have hper := Lib.hid (fun V (k : Chg w6 V 0 0) => spec_PermuteSuits A1 4 c1 zss lo1 hi1 Bq _ Cq (os.getD q []) _ _ V (RD6.out.still k) (hrd.still k) (by have := hq4.out; omega) (by omega) hl0.out)
      rw [pv, pe] at hper
      have HCE := Lib.hid ce
      have HCV := Lib.hid cv
      have HSV := Lib.hid sv
      have HP4 := Lib.hid p4
      clear hmem pv pe ce cv sv p4 G6 k6 RO6 D5 E5 K5 RD5 OC5 RO5 G5 q4 q5 hrd
      generalize permD (os.getD q []) zss = pz at hper HCE HCV HSV HP4
      generalize (os.getD q []).length = lq at hper hcell hq4
      have pd := D6.out.c
      have hqI : (q : Int) < (L : Int) := by omega
      go_wp2_with fail
      refine (hper.out w6 (Chg.refl _ _ _)).mono ?_
      rintro e w7 ⟨P, cp, rfl, _, op, ch7⟩
      rw [HP4.out] at op ⊢
      have N7 := Lib.hid (ch7.trans (Chg.of_alloc w7 (.cells #[.slice P 4 cp] 36) 0 0))
      have F7 := Lib.hid (BoxAt.new w7 (.slice P 4 cp) 36 rfl)
      have D7 := Lib.hid (D6.out.still N7.out)
      have E7 := Lib.hid (E6.out.still N7.out)
      have OP7 := Lib.hid (op.rd.still (Chg.of_alloc w7 (.cells #[.slice P 4 cp] 36) 0 0))
      have p7 := F7.out.c
      clear op ch7 hper hcell pd D6 E6
      go_wp2_with fail
      generalize w7.alloc (.cells #[.slice P 4 cp] 36) = V7 at N7 F7 D7 E7 OP7 p7 ⊢
      have hcx := Lib.hid (impl_CanonicalDeal P 4 cp s pz _ _ V7 OP7.out)
      rw [HCE.out, HCV.out] at hcx
      refine hcx.out.mono ?_
      rintro e w8 ⟨X, cx, rfl, _, ox, ch8⟩
      rw [hcl.out] at ox ⊢
      have N8 := Lib.hid (N7.out.trans (ch8.trans (Chg.of_alloc w8 (.cells #[.slice X 4 cx] 36) 0 0)))
      have M8 := Lib.hid (ch8.trans (Chg.of_alloc w8 (.cells #[.slice X 4 cx] 36) 0 0))
      have F8 := Lib.hid (F7.out.still M8.out)
      have D8 := Lib.hid (D7.out.still M8.out)
      have E8 := Lib.hid (E7.out.still M8.out)
      have X8 := Lib.hid (BoxAt.new w8 (.slice X 4 cx) 36 rfl)
      have OP8 := Lib.hid (OP7.out.still M8.out)
      have OX8 := Lib.hid (ox.rd.still (Chg.of_alloc w8 (.cells #[.slice X 4 cx] 36) 0 0))
      have p8 := E8.out.c
      clear ox ch8 hcx p7 M8 N7 F7 D7 E7 OP7
      go_wp2_with fail
      generalize w8.alloc (.cells #[.slice X 4 cx] 36) = V8 at N8 F8 D8 E8 X8 OP8 OX8 p8 ⊢
      refine (HI6.out V8 N8.out).mono ?_
      rintro e w9 ⟨Y, cy, rfl, _, oy, ch9⟩
      rw [hcl.out] at oy ⊢
      have N9 := Lib.hid (N8.out.trans (ch9.trans (Chg.of_alloc w9 (.cells #[.slice Y 4 cy] 36) 0 0)))
      have M9 := Lib.hid (ch9.trans (Chg.of_alloc w9 (.cells #[.slice Y 4 cy] 36) 0 0))
      have F9 := Lib.hid (F8.out.still M9.out)
      have D9 := Lib.hid (D8.out.still M9.out)
      have E9 := Lib.hid (E8.out.still M9.out)
      have X9 := Lib.hid (X8.out.still M9.out)
      have Y9 := Lib.hid (BoxAt.new w9 (.slice Y 4 cy) 36 rfl)
      have OP9 := Lib.hid (OP8.out.still M9.out)
      have OX9 := Lib.hid (OX8.out.still M9.out)
      have OC9 := Lib.hid (OC6.out.still N9.out)
      have RD9 := Lib.hid (RD6.out.still N9.out)
      have OY9 := Lib.hid (oy.rd.still (Chg.of_alloc w9 (.cells #[.slice Y 4 cy] 36) 0 0))
      have p1 := X9.out.c
      have p2 := E9.out.c
      clear oy ch9 p8 M9 N8 F8 D8 E8 X8 OP8 OX8 OC6 RD6
      go_wp2_with fail
      generalize w9.alloc (.cells #[.slice Y 4 cy] 36) = V9 at N9 F9 D9 E9 X9 Y9 OP9 OX9 OC9 RD9 OY9 p1 p2 ⊢
      refine (likeDeals X C 4 4 cx cc cz _ _ _ _ V9 OX9.out OC9.out (by omega) hc13.out).mono ?_
      rintro e w10 ⟨rfl, c10⟩
      have p3 := (Y9.out.still c10).c
      have p4 := (E9.out.still c10).c
      clear p1 p2
      go_wp2_with fail
      refine (likeDeals Y C 4 4 cy cc cz _ _ _ _ w10 (OY9.out.still c10) (OC9.out.still c10) (by omega) hc13.out).mono ?_
      rintro e w11 ⟨rfl, c11⟩
      have k11 := Lib.hid (c10.trans c11)
      have p5 := (D9.out.still k11.out).c
      have p6 := (F9.out.still k11.out).c
      clear p3 p4 c10 c11
      have hsm := Lib.hid (impl_SameUpToSuits A1 4 c1 zss lo1 hi1 P 4 cp pz _ _ s w11 (RD9.out.still k11.out) (OP9.out.still k11.out))
      rw [HSV.out] at hsm
      go_wp2_with fail
      refine hsm.out.mono ?_
      rintro e w12 ⟨rfl, c12⟩
      go_wp2_with fail
      go_ret
      exact ⟨rfl, K6.out.trans (((N9.out.trans k11.out).trans c12).to_below.mono K6.out.size)⟩
  · have hV := can_no hE
    have hS := Lib.hid (sameV_no1 (yss := zss) hE)
    obtain rfl : m = 0 := by rw [← HM.out, hV]; rfl
    have pc := E4.out.c
    have pd := D4.out.c
    have hne : (canE zss s == 0) = false := by simpa using hE
    have hne2 : (canE zss s != 0) = true := by simpa using hE
    generalize canE zss s = x at hne hne2
    have hsm := Lib.hid (impl_SameUpToSuits A1 n1 c1 zss lo1 hi1 A1 n1 c1 zss lo1 hi1 s _ RD4.out RD4.out)
    rw [hS.out] at hsm
    clear hE hV HM OC4
    go_wp2_with fail
    refine hsm.out.mono ?_
    rintro e w5 ⟨rfl, c5⟩
    go_wp2_with fail
    go_ret
    exact ⟨rfl, K4.out.trans (c5.to_below.mono K4.out.size)⟩

end Go.Proofs.Yteojdlacdnfgiaa.Lib1
