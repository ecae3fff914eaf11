/- Chapter 7: the law FnAuctionContract, for whatever functions of the program keep the contracts. (Written by wip/gen7c.py.) -/
import Derived.Test.YtnkbcmkngghnoaaAucP7
namespace Go.Proofs.Ytnkbcmkngghnoaa.Lib1
open Go.RowKit
set_option maxRecDepth 100000

theorem i64_wrap' (z : Int) (h0 : -1000 ≤ z) (h1 : z ≤ 1000000000) : IntKind.i64.wrap z = z := by rw [IntKind.wrap_i64]; omega
theorem calls_rng {cs : List Int} {m : Nat} (h : validTo cs m = true) : ∀ j, j < m → 0 ≤ cs.getD j 0 ∧ cs.getD j 0 < 38 := by
  induction m with
  | zero => intro j hj; omega
  | succ m ih =>
    intro j hj
    simp only [validTo, Bool.and_eq_true] at h
    by_cases e : j = m
    · subst e; exact legTo_range h.2
    · exact ih h.1.1 j (by omega)
/-- What the law asks of a contract. -/
theorem con_facts {d : Int} {cs : List Int} {m : Nat} (hd : inB d 0 3 = true) :
    (atTo cs m = -1 ∧ conL cs m = 0 ∧ isConV (conL cs m) (conS cs m) (conX cs m) (conD d cs m) = true) ∨
    ((0 ≤ atTo cs m ∧ atTo cs m < m) ∧ isConV (conL cs m) (conS cs m) (conX cs m) (conD d cs m) = true ∧ bidV (conL cs m) (conS cs m) = cs.getD (atTo cs m).toNat 0 ∧ (d + atTo cs m - conD d cs m) % 2 = 0 ∧ ∃ f : Nat, f < m ∧ (d + (f : Int)) % 4 = conD d cs m ∧ strV (cs.getD f 0) = conS cs m ∧ 3 ≤ cs.getD f 0) := by
  have hs := stand_rng cs m
  rcases hs with ⟨⟨h1, h2⟩ | ⟨h1, h2, h3, h4, h5⟩, h6, h7⟩
  · left
    have e : bidTo cs m < 0 := by omega
    refine ⟨h2, ?_, ?_⟩
    · unfold conL; rw [if_pos e]
    · unfold conL conS conX conD; rw [if_pos e, if_pos e, if_pos e, if_pos e]; rfl
  · right
    have e : ¬ bidTo cs m < 0 := by omega
    obtain ⟨a, ha⟩ : ∃ a : Nat, atTo cs m = (a : Int) := ⟨(atTo cs m).toNat, by omega⟩
    have hta : (atTo cs m).toNat = a := by rw [ha]; rfl
    rw [hta] at h5
    have hk : strV (cs.getD a 0) = strV (bidTo cs m) := by rw [h5]
    have hf := firTo_least hk (a + 1) (by omega) (Nat.le_refl _)
    have hfl := firTo_le cs a (strV (bidTo cs m)) (a + 1)
    have eL : conL cs m = levV (bidTo cs m) := by unfold conL; rw [if_neg e]
    have eS : conS cs m = strV (bidTo cs m) := by unfold conS; rw [if_neg e]
    have eX : conX cs m = stTo cs m := by unfold conX; rw [if_neg e]
    have eD : conD d cs m = (d + (firTo cs a (strV (bidTo cs m)) (a + 1) : Int)) % 4 := by unfold conD; rw [if_neg e, hta]
    rw [eL, eS, eX, eD, ha, Int.toNat_natCast, h5]
    generalize firTo cs a (strV (bidTo cs m)) (a + 1) = f at hf hfl ⊢
    have hb := inB_seat hd
    have hst : 0 ≤ strV (bidTo cs m) ∧ strV (bidTo cs m) ≤ 4 := by rw [strV_yes ⟨h1, h2⟩]; omega
    have hlv : 1 ≤ levV (bidTo cs m) ∧ levV (bidTo cs m) ≤ 7 := by rw [levV_yes ⟨h1, h2⟩]; omega
    refine ⟨by omega, ?_, ?_, by omega, f, by omega, rfl, hf.2.1, ?_⟩
    · unfold isConV
      rw [inB_true hlv, inB_true hst, inB_true (show (0 : Int) ≤ stTo cs m ∧ stTo cs m ≤ 2 by omega), inB_true (show 0 ≤ (d + (f : Int)) % 4 ∧ (d + (f : Int)) % 4 ≤ 3 by omega)]
      simp
    · rw [levV_yes ⟨h1, h2⟩, strV_yes ⟨h1, h2⟩, bidV_yes (by omega)]; omega
    · have h0 := hf.2.1
      by_cases hc : 3 ≤ cs.getD f 0 ∧ cs.getD f 0 ≤ 37
      · exact hc.1
      · rw [strV_no hc] at h0; omega

theorem con_all (d : Int) (cs : List Int) (m : Nat) : ∃ l s x e : Int, conZ d cs m = #[.int .i64 l, .int .i64 s, .int .i64 x, .int .i64 e] ∧ ((((inB d 0 3 && validTo cs m) && overTo cs m) = false ∧ (conB d cs m = 1 ∨ conB d cs m = 5)) ∨ (((inB d 0 3 && validTo cs m) && overTo cs m) = true ∧ conB d cs m = 0 ∧ l = conL cs m ∧ s = conS cs m ∧ x = conX cs m ∧ e = conD d cs m)) := by
  cases h1 : inB d 0 3 && validTo cs m
  · have hb : conB d cs m = 1 := by unfold conB; rw [h1]; rfl
    exact ⟨0, 0, 0, 0, by unfold conZ; rw [hb]; rfl, .inl ⟨rfl, .inl hb⟩⟩
  cases h2 : overTo cs m
  · have hb : conB d cs m = 5 := by unfold conB; rw [h1, h2]; rfl
    exact ⟨0, 0, 0, 0, by unfold conZ; rw [hb]; rfl, .inl ⟨rfl, .inr hb⟩⟩
  · have hb : conB d cs m = 0 := by unfold conB; rw [h1, h2]; rfl
    exact ⟨conL cs m, conS cs m, conX cs m, conD d cs m, by unfold conZ; rw [if_pos hb]; rfl, .inr ⟨rfl, hb, rfl, rfl, rfl, rfl⟩⟩

set_option maxHeartbeats 8000000 in
theorem law_FnAuctionContract (hE : EndF 21) (hC : ConF 23) (hG : IsConF 25) (hB : BidF 27) (A : Option Addr) (n c : Nat) (w : World) (h : Bytes w A n) :
    Calls Try.prog 4 #[.slice A n c] w fun e w' => e = .returned (.bool true) ∧ Below w.heap.size w w' := by
  by_cases hn : 4096 < n
  · have hb := Lib.hid (decide_eq_true hn)
    clear hE hC hG hB
    go_enter Try.func4, Try.ntmps4
    go_wp2_with fail
    refine (big _ _ _ _).mono ?_
    rintro e w' ⟨rfl, rfl⟩
    rw [hb.out]
    go_wp2_with fail
    go_ret
    exact ⟨rfl, Below.refl _ _⟩
  · have hb := Lib.hid (decide_eq_false hn)
    have HE := Lib.hid hE
    have HC := Lib.hid hC
    have HG := Lib.hid hG
    have HB := Lib.hid hB
    clear hE hC hG hB
    go_enter Try.func4, Try.ntmps4
    go_wp2_with fail
    refine (big _ _ _ _).mono ?_
    rintro e w' ⟨rfl, rfl⟩
    rw [hb.out]
    go_wp2_with fail
    refine (DrawContractOf A n c _ h (by omega)).mono ?_
    rintro e w1 ⟨d, D, m, k, cs, rfl, hm, hcap, hnil, hrd, b1⟩
    clear h hb hnil
    have HLEN := Lib.hid hrd.1
    have B0 : Hid ((w1.alloc (.cells #[.int .i64 0, .slice none 0 0] 26)).heap[w1.heap.size]? = some (.cells aucZero 26 (0, 0))) := heap_alloc_new w1 _
    have ca := Chg.of_alloc w1 (.cells #[.int .i64 0, .slice none 0 0] 26) 0 0
    have B1 : Hid (ABox ((w1.alloc (.cells #[.int .i64 0, .slice none 0 0] 26)).setRow w1.heap.size #[.int .i64 d, .slice D m k]) w1.heap.size d D m k) := setRow_heap _ _ _ #[.int .i64 d, .slice D m k] _ _ B0.out
    have C1 := Lib.hid (ca.rowC (show w1.heap.size ≤ w1.heap.size by omega) #[.int .i64 d, .slice D m k])
    have R1 := Lib.hid ((Rp.of_rd hrd).still C1.out)
    have K1 := Lib.hid (b1.trans ((Chg.to_below C1.out).mono b1.size))
    clear ca hrd b1
    go_wp2_with (first | (refine wpList_store_row rfl 26 _ _ rfl w1.heap.size #[.int .i64 d, .slice D m k] rfl rfl 26 aucZero B0.out (auc_info d D m k) rfl (auc_cells d D m k) ?_) | (refine wpList_load_row rfl 26 _ rfl w1.heap.size rfl 26 #[.int .i64 d, .slice D m k] (0, 0) _ B1.out Try.underlying26 rfl (auc_info d D m k) ?_))
    generalize (w1.alloc (.cells #[.int .i64 0, .slice none 0 0] 26)).setRow w1.heap.size #[.int .i64 d, .slice D m k] = W2 at B1 C1 R1 K1 ⊢
    obtain ⟨g, hg⟩ : ∃ g, g = w1.heap.size := ⟨_, rfl⟩
    rw [← hg] at B1 ⊢
    clear hg C1 B0
    refine (HC.out d D m k cs _ R1.out (by omega) hcap).mono ?_
    obtain ⟨l, s, x, e0, hz, hall⟩ := con_all d cs m
    rw [hz]
    obtain ⟨bd, hbd⟩ : ∃ bd, bd = conB d cs m := ⟨_, rfl⟩
    rw [← hbd] at hall ⊢
    have HALL := Lib.hid hall
    clear hall hz hbd
    rintro e w3 ⟨rfl, c3⟩
    have B3 := Lib.hid (B1.out.still c3)
    have R3 := Lib.hid (R1.out.still c3)
    have K3 := Lib.hid (K1.out.trans ((Chg.to_below c3).mono K1.out.size))
    clear c3 B1 R1 K1
    have B0 : Hid ((w3.alloc (.cells #[.int .i64 0, .int .i64 0, .int .i64 0, .int .i64 0] 36)).heap[w3.heap.size]? = some (.cells (conA 0 0 0 0) 36 (0, 0))) := heap_alloc_new w3 _
    have ca := Chg.of_alloc w3 (.cells #[.int .i64 0, .int .i64 0, .int .i64 0, .int .i64 0] 36) 0 0
    have N5 : Hid (CBox ((w3.alloc (.cells #[.int .i64 0, .int .i64 0, .int .i64 0, .int .i64 0] 36)).setRow w3.heap.size #[.int .i64 l, .int .i64 s, .int .i64 x, .int .i64 e0]) w3.heap.size l s x e0) := setRow_heap _ _ _ #[.int .i64 l, .int .i64 s, .int .i64 x, .int .i64 e0] _ _ B0.out
    have C5 := Lib.hid (ca.rowC (show w3.heap.size ≤ w3.heap.size by omega) #[.int .i64 l, .int .i64 s, .int .i64 x, .int .i64 e0])
    have B5 := Lib.hid (B3.out.still C5.out)
    have R5 := Lib.hid (R3.out.still C5.out)
    have K5 := Lib.hid (K3.out.trans ((Chg.to_below C5.out).mono K3.out.size))
    clear ca B3 R3 K3
    go_wp2_with (first | (refine wpList_store_row rfl 36 _ _ rfl w3.heap.size #[.int .i64 l, .int .i64 s, .int .i64 x, .int .i64 e0] rfl rfl 36 (conA 0 0 0 0) B0.out (con_info l s x e0) rfl (con_cells l s x e0) ?_) | (refine wpList_load_row rfl 26 _ rfl g rfl 26 #[.int .i64 d, .slice D m k] (0, 0) _ B5.out Try.underlying26 rfl (auc_info d D m k) ?_))
    generalize (w3.alloc (.cells #[.int .i64 0, .int .i64 0, .int .i64 0, .int .i64 0] 36)).setRow w3.heap.size #[.int .i64 l, .int .i64 s, .int .i64 x, .int .i64 e0] = W5 at N5 C5 B5 R5 K5 ⊢
    obtain ⟨p, hp⟩ : ∃ p, p = w3.heap.size := ⟨_, rfl⟩
    rw [← hp] at N5 ⊢
    clear hp C5 B0
    refine (spec_AuctionEnded d D m k cs _ R5.out (by omega) hcap).mono ?_
    rcases HALL.out with ⟨hV, hbd⟩ | ⟨hV, rfl, rfl, rfl, rfl, rfl⟩
    · rw [hV]
      rintro e w6 ⟨rfl, c6⟩
      have B6 := Lib.hid (B5.out.still c6)
      have R6 := Lib.hid (R5.out.still c6)
      have K6 := Lib.hid (K5.out.trans ((Chg.to_below c6).mono K5.out.size))
      have HV := Lib.hid hV
      clear c6 N5 B5 R5 K5 hV HALL
      have y0 := B6.out.c0
      have y1 := B6.out.c1
      rcases hbd with rfl | rfl
      · go_wp2_with fail
        refine (HE.out d D m k cs _ R6.out (by omega) hcap).mono ?_
        rw [HV.out]
        rintro e w7 ⟨rfl, c7⟩
        have K7 := Lib.hid (K6.out.trans ((Chg.to_below c7).mono K6.out.size))
        clear c7 y0 y1 B6
        go_wp2_with fail
        go_ret
        exact ⟨rfl, K7.out⟩
      · go_wp2_with fail
        refine (HE.out d D m k cs _ R6.out (by omega) hcap).mono ?_
        rw [HV.out]
        rintro e w7 ⟨rfl, c7⟩
        have K7 := Lib.hid (K6.out.trans ((Chg.to_below c7).mono K6.out.size))
        clear c7 y0 y1 B6
        go_wp2_with fail
        go_ret
        exact ⟨rfl, K7.out⟩
    · rw [hV]
      rintro e w6 ⟨rfl, c6⟩
      have hd0 : inB d 0 3 = true := (Bool.and_eq_true_iff.1 (Bool.and_eq_true_iff.1 hV).1).1
      have hv0 : validTo cs m = true := (Bool.and_eq_true_iff.1 (Bool.and_eq_true_iff.1 hV).1).2
      have FA := Lib.hid (con_facts (d := d) (cs := cs) (m := m) hd0)
      have HRG := Lib.hid (calls_rng hv0)
      have hdd := inB_seat hd0
      have N6 := Lib.hid (N5.out.still c6)
      have B6 := Lib.hid (B5.out.still c6)
      have R6 := Lib.hid (R5.out.still c6)
      have K6 := Lib.hid (K5.out.trans ((Chg.to_below c6).mono K5.out.size))
      clear c6 N5 B5 R5 K5 hV HALL hd0 hv0
      generalize conL cs m = l at FA N6
      generalize conS cs m = s at FA N6
      generalize conX cs m = x at FA N6
      generalize conD d cs m = e0 at FA N6
      have y0 := B6.out.c0
      have y1 := B6.out.c1
      go_wp2_with fail
      go_loop [6, 7] (fun u i => ∃ j : Nat, j ≤ m ∧ i = .int .i64 j ∧ u = .int .i64 (atTo cs j)) (fun _ i => m - (intOf i).toNat)
      case atStart => exact ⟨0, Nat.zero_le _, rfl, rfl⟩
      case round =>
        obtain ⟨j, hj, rfl, rfl⟩ := hrel
        by_cases hlt : j < m
        · obtain ⟨b, off, rfl, hc⟩ := R6.out (by omega)
          have q1 := hc j hlt
          have hjl : (j : Int) < (m : Int) := by omega
          have hr := HRG.out j hlt
          have hat : Hid (atTo cs (j + 1) = if inB (cs.getD j 0) 3 37 then (j : Int) else atTo cs j) := rfl
          generalize cs.getD j 0 = z at q1 hr hat
          clear hc
          by_cases hz : 3 ≤ z
          · have hat2 : Hid (atTo cs (j + 1) = (j : Int)) := by have := hat.out; rw [inB_true (by omega)] at this; exact this
            clear hat
            go_wp2_with fail
            go_roundw
            all_goals first
              | exact ⟨j + 1, by omega, by go_num, by rw [hat2.out]⟩
              | (simp [intOf]; omega)
          · have hat2 : Hid (atTo cs (j + 1) = atTo cs j) := by have := hat.out; rw [inB_false (by omega)] at this; exact this
            clear hat
            go_wp2_with fail
            go_roundw
            all_goals first
              | exact ⟨j + 1, by omega, by go_num, by rw [hat2.out]⟩
              | (simp [intOf]; omega)
        · obtain rfl : j = m := by omega
          have hmq := N6.out.c
          obtain ⟨n0, n1, n2, n3⟩ := hmq
          go_wp2_with fail
          refine (HG.out l s x e0 _).mono ?_
          rcases FA.out with ⟨f1, f2, f3⟩ | ⟨f1, f3, f4, f5, f, f6, f7, f8, f9⟩
          · rw [f3, f1]
            subst f2
            rintro e w7 ⟨rfl, c7⟩
            have N7 := Lib.hid (N6.out.still c7)
            have K7 := Lib.hid (K6.out.trans ((Chg.to_below c7).mono K6.out.size))
            clear c7 n0 n1 n2 n3 y0 y1 N6 B6 R6 K6 f1 f3 FA
            have r0 := N7.out.c.1
            go_wp2_with fail
            go_ret
            exact ⟨rfl, K7.out⟩
          · rw [f3]
            obtain ⟨a, ha⟩ : ∃ a : Nat, atTo cs j = (a : Int) := ⟨(atTo cs j).toNat, by omega⟩
            rw [ha]
            rintro e w7 ⟨rfl, c7⟩
            have N7 := Lib.hid (N6.out.still c7)
            have B7 := Lib.hid (B6.out.still c7)
            have R7 := Lib.hid (R6.out.still c7)
            have K7 := Lib.hid (K6.out.trans ((Chg.to_below c7).mono K6.out.size))
            rw [ha, Int.toNat_natCast] at f4
            rw [ha] at f1 f5
            have F4 := Lib.hid f4
            have F5 := Lib.hid f5
            have F7 := Lib.hid f7
            have F8 := Lib.hid f8
            have F9 := Lib.hid f9
            clear c7 n0 n1 n2 n3 y0 y1 N6 B6 R6 K6 f3 f4 f5 f7 f8 f9 FA ha
            have ha0 : ¬ (a : Int) < 0 := by omega
            go_wp2_with fail
            go_loopw [8, 9] (fun b i wr => ∃ (q : Nat) (bb : Bool), q ≤ j ∧ i = .int .i64 q ∧ b = .bool bb ∧ (f < q → bb = true) ∧ Hid (Chg w7 wr 0 0)) (fun _ i _ => j - (intOf i).toNat)
            case atStart => exact ⟨0, false, Nat.zero_le _, rfl, rfl, fun h => by omega, Chg.refl _ _ _⟩
            case round =>
              obtain ⟨q, bb, hq, rfl, rfl, hbb, hch⟩ := hrel
              have Nw := Lib.hid (N7.out.still hch.out)
              have Bw := Lib.hid (B7.out.still hch.out)
              have Rw := Lib.hid (R7.out.still hch.out)
              have hmq := Nw.out.c
              obtain ⟨n0, n1, n2, n3⟩ := hmq
              have y0 := Bw.out.c0
              have y1 := Bw.out.c1
              by_cases hlt : q < j
              · obtain ⟨b, off, rfl, hc⟩ := Rw.out (by omega)
                have q1 := hc q hlt
                have hjl : (q : Int) < (j : Int) := by omega
                clear hc
                have hz0 := HRG.out q hlt
                obtain ⟨z, hz⟩ : ∃ z, z = cs.getD q 0 := ⟨_, rfl⟩
                rw [← hz] at q1 hz0
                have HZ := Lib.hid hz
                clear hz
                have hHeld0 := And.intro n3 (And.intro n1 (And.intro y1 q1))
                have hch2 := Lib.hid (hch.out.trans (Chg.drewN wr 1 0 0))
                have hqc : (q : Int) ≤ (k : Int) := by omega
                have hq0 : 0 ≤ (q : Int) := by omega
                have hw1 : IntKind.i64.wrap (d + (q : Int)) = d + (q : Int) := by rw [i64_wrap' _ (by omega) (by omega)]
                have hw2 : (d + (q : Int)).tmod 4 = (d + (q : Int)) % 4 := Int.tmod_eq_emod_of_nonneg (by omega)
                clear n0 n1 n2 n3
                cases bb
                · cases he1 : ((d + (q : Int)) % 4 == e0)
                  · have hnf : f < q + 1 → False := fun hfq => by
                      have hfe : f = q := by by_cases h0 : f < q; · exact absurd (hbb h0) (by simp)
                                             · omega
                      rw [hfe] at F7; rw [F7.out] at he1; simp at he1
                    go_wp2_with fail
                    refine wp_region_held_drew (S := fun V => V.cell? ⟨p, 3, none⟩ = some (.int .i64 e0) ∧ V.cell? ⟨p, 1, none⟩ = some (.int .i64 s) ∧ V.cell? ⟨g, 1, none⟩ = some (.slice (some ⟨b, off, none⟩) j k) ∧ V.cell? ⟨b, off + q, none⟩ = some (.int .i64 z)) (by kernel_rfl) hHeld0 (fun hHeld => ?_)
                    refine take_slotC (i := 0) (d := some 68) (v := .bool false) rfl (by kernel_rfl) (by kernel_rfl) (by kernel_rfl) (by kernel_rfl) (fun _ _ _ h => h) (.inl ⟨by kernel_rfl, fun V hV => by obtain ⟨hV1, hV2, hV3, hV4⟩ := hV; go_simp⟩) hHeld ?_
                    try simp only [Act.put, List.setIfInBounds_toArray, List.set_cons_zero, List.set_cons_succ]
                    refine take_slotC (i := 1) (d := some 69) (v := .bool false) rfl (by kernel_rfl) (by kernel_rfl) (by kernel_rfl) (by kernel_rfl) (fun _ _ _ h => h) (.inl ⟨by kernel_rfl, fun V hV => by obtain ⟨hV1, hV2, hV3, hV4⟩ := hV; go_simp⟩) hHeld ?_
                    try simp only [Act.put, List.setIfInBounds_toArray, List.set_cons_zero, List.set_cons_succ]
                    refine take_slotC (i := 2) (d := some 70) (v := .int .i64 ((d + (q : Int)) % 4)) rfl (by kernel_rfl) (by kernel_rfl) (by kernel_rfl) (by kernel_rfl) (fun _ _ _ h => h) (.inl ⟨by kernel_rfl, fun V hV => by obtain ⟨hV1, hV2, hV3, hV4⟩ := hV; go_simp⟩) hHeld ?_
                    try simp only [Act.put, List.setIfInBounds_toArray, List.set_cons_zero, List.set_cons_succ]
                    refine take_slotC (i := 3) (d := some 71) (v := .pointer (some ⟨p, 3, none⟩)) rfl (by kernel_rfl) (by kernel_rfl) (by kernel_rfl) (by kernel_rfl) (fun _ _ _ h => h) (.inl ⟨by kernel_rfl, fun V hV => by obtain ⟨hV1, hV2, hV3, hV4⟩ := hV; go_simp⟩) hHeld ?_
                    try simp only [Act.put, List.setIfInBounds_toArray, List.set_cons_zero, List.set_cons_succ]
                    refine take_slotC (i := 4) (d := some 72) (v := .int .i64 e0) rfl (by kernel_rfl) (by kernel_rfl) (by kernel_rfl) (by kernel_rfl) (fun _ _ _ h => h) (.inl ⟨by kernel_rfl, fun V hV => by obtain ⟨hV1, hV2, hV3, hV4⟩ := hV; go_simp⟩) hHeld ?_
                    try simp only [Act.put, List.setIfInBounds_toArray, List.set_cons_zero, List.set_cons_succ]
                    refine take_slotC (i := 5) (d := some 73) (v := .bool false) rfl (by kernel_rfl) (by kernel_rfl) (by kernel_rfl) (by kernel_rfl) (fun _ _ _ h => h) (.inl ⟨by kernel_rfl, fun V hV => by obtain ⟨hV1, hV2, hV3, hV4⟩ := hV; go_simp⟩) hHeld ?_
                    try simp only [Act.put, List.setIfInBounds_toArray, List.set_cons_zero, List.set_cons_succ]
                    refine take_slotC (i := 6) (d := some 74) (v := .bool false) rfl (by kernel_rfl) (by kernel_rfl) (by kernel_rfl) (by kernel_rfl) (fun _ _ _ h => h) (.inl ⟨by kernel_rfl, fun V hV => by obtain ⟨hV1, hV2, hV3, hV4⟩ := hV; go_simp⟩) hHeld ?_
                    try simp only [Act.put, List.setIfInBounds_toArray, List.set_cons_zero, List.set_cons_succ]
                    refine take_slotC (i := 7) (d := some 75) (v := undef) rfl (by kernel_rfl) (by kernel_rfl) (by kernel_rfl) (by kernel_rfl) (fun _ _ _ h => h) (.inr ⟨by kernel_rfl, rfl⟩) hHeld ?_
                    try simp only [Act.put, List.setIfInBounds_toArray, List.set_cons_zero, List.set_cons_succ]
                    refine take_slotC (i := 8) (d := some 76) (v := undef) rfl (by kernel_rfl) (by kernel_rfl) (by kernel_rfl) (by kernel_rfl) (fun _ _ _ h => h) (.inr ⟨by kernel_rfl, rfl⟩) hHeld ?_
                    try simp only [Act.put, List.setIfInBounds_toArray, List.set_cons_zero, List.set_cons_succ]
                    refine take_slotC (i := 9) (d := some 77) (v := undef) rfl (by kernel_rfl) (by kernel_rfl) (by kernel_rfl) (by kernel_rfl) (fun _ _ _ h => h) (.inr ⟨by kernel_rfl, rfl⟩) hHeld ?_
                    try simp only [Act.put, List.setIfInBounds_toArray, List.set_cons_zero, List.set_cons_succ]
                    refine take_slotC (i := 10) (d := some 78) (v := undef) rfl (by kernel_rfl) (by kernel_rfl) (by kernel_rfl) (by kernel_rfl) (fun _ _ _ h => h) (.inr ⟨by kernel_rfl, rfl⟩) hHeld ?_
                    try simp only [Act.put, List.setIfInBounds_toArray, List.set_cons_zero, List.set_cons_succ]
                    refine take_slotC (i := 11) (d := some 79) (v := undef) rfl (by kernel_rfl) (by kernel_rfl) (by kernel_rfl) (by kernel_rfl) (fun _ _ _ h => h) (.inr ⟨by kernel_rfl, rfl⟩) hHeld ?_
                    try simp only [Act.put, List.setIfInBounds_toArray, List.set_cons_zero, List.set_cons_succ]
                    refine take_slotC (i := 12) (d := some 80) (v := undef) rfl (by kernel_rfl) (by kernel_rfl) (by kernel_rfl) (by kernel_rfl) (fun _ _ _ h => h) (.inr ⟨by kernel_rfl, rfl⟩) hHeld ?_
                    try simp only [Act.put, List.setIfInBounds_toArray, List.set_cons_zero, List.set_cons_succ]
                    refine take_slotC (i := 13) (d := some 81) (v := undef) rfl (by kernel_rfl) (by kernel_rfl) (by kernel_rfl) (by kernel_rfl) (fun _ _ _ h => h) (.inr ⟨by kernel_rfl, rfl⟩) hHeld ?_
                    try simp only [Act.put, List.setIfInBounds_toArray, List.set_cons_zero, List.set_cons_succ]
                    refine take_slotC (i := 14) (d := some 82) (v := undef) rfl (by kernel_rfl) (by kernel_rfl) (by kernel_rfl) (by kernel_rfl) (fun _ _ _ h => h) (.inr ⟨by kernel_rfl, rfl⟩) hHeld ?_
                    try simp only [Act.put, List.setIfInBounds_toArray, List.set_cons_zero, List.set_cons_succ]
                    refine take_slotC (i := 15) (d := some 83) (v := undef) rfl (by kernel_rfl) (by kernel_rfl) (by kernel_rfl) (by kernel_rfl) (fun _ _ _ h => h) (.inr ⟨by kernel_rfl, rfl⟩) hHeld ?_
                    try simp only [Act.put, List.setIfInBounds_toArray, List.set_cons_zero, List.set_cons_succ]
                    refine take_slotC (i := 16) (d := some 84) (v := .bool false) rfl (by kernel_rfl) (by kernel_rfl) (by kernel_rfl) (by kernel_rfl) (fun _ _ _ h => h) (.inl ⟨by kernel_rfl, fun V hV => by obtain ⟨hV1, hV2, hV3, hV4⟩ := hV; go_simp⟩) hHeld ?_
                    try simp only [Act.put, List.setIfInBounds_toArray, List.set_cons_zero, List.set_cons_succ]
                    refine take_slotC (i := 17) (d := some 85) (v := .bool false) rfl (by kernel_rfl) (by kernel_rfl) (by kernel_rfl) (by kernel_rfl) (fun _ _ _ h => h) (.inl ⟨by kernel_rfl, fun V hV => by obtain ⟨hV1, hV2, hV3, hV4⟩ := hV; go_simp⟩) hHeld ?_
                    try simp only [Act.put, List.setIfInBounds_toArray, List.set_cons_zero, List.set_cons_succ]
                    refine take_slotC (i := 18) (d := some 86) (v := undef) rfl (by kernel_rfl) (by kernel_rfl) (by kernel_rfl) (by kernel_rfl) (fun _ _ _ h => h) (.inr ⟨by kernel_rfl, rfl⟩) hHeld ?_
                    try simp only [Act.put, List.setIfInBounds_toArray, List.set_cons_zero, List.set_cons_succ]
                    refine take_slotC (i := 19) (d := some 87) (v := undef) rfl (by kernel_rfl) (by kernel_rfl) (by kernel_rfl) (by kernel_rfl) (fun _ _ _ h => h) (.inr ⟨by kernel_rfl, rfl⟩) hHeld ?_
                    try simp only [Act.put, List.setIfInBounds_toArray, List.set_cons_zero, List.set_cons_succ]
                    refine take_slotC (i := 20) (d := some 88) (v := undef) rfl (by kernel_rfl) (by kernel_rfl) (by kernel_rfl) (by kernel_rfl) (fun _ _ _ h => h) (.inr ⟨by kernel_rfl, rfl⟩) hHeld ?_
                    try simp only [Act.put, List.setIfInBounds_toArray, List.set_cons_zero, List.set_cons_succ]
                    refine take_slotC (i := 21) (d := some 89) (v := undef) rfl (by kernel_rfl) (by kernel_rfl) (by kernel_rfl) (by kernel_rfl) (fun _ _ _ h => h) (.inr ⟨by kernel_rfl, rfl⟩) hHeld ?_
                    try simp only [Act.put, List.setIfInBounds_toArray, List.set_cons_zero, List.set_cons_succ]
                    refine take_slotC (i := 22) (d := some 90) (v := undef) rfl (by kernel_rfl) (by kernel_rfl) (by kernel_rfl) (by kernel_rfl) (fun _ _ _ h => h) (.inr ⟨by kernel_rfl, rfl⟩) hHeld ?_
                    try simp only [Act.put, List.setIfInBounds_toArray, List.set_cons_zero, List.set_cons_succ]
                    refine take_slotC (i := 23) (d := some 91) (v := undef) rfl (by kernel_rfl) (by kernel_rfl) (by kernel_rfl) (by kernel_rfl) (fun _ _ _ h => h) (.inr ⟨by kernel_rfl, rfl⟩) hHeld ?_
                    try simp only [Act.put, List.setIfInBounds_toArray, List.set_cons_zero, List.set_cons_succ]
                    refine take_slotC (i := 24) (d := some 92) (v := .bool false) rfl (by kernel_rfl) (by kernel_rfl) (by kernel_rfl) (by kernel_rfl) (fun _ _ _ h => h) (.inl ⟨by kernel_rfl, fun V hV => by obtain ⟨hV1, hV2, hV3, hV4⟩ := hV; go_simp⟩) hHeld ?_
                    try simp only [Act.put, List.setIfInBounds_toArray, List.set_cons_zero, List.set_cons_succ]
                    refine take_slotC (i := 25) (d := some 93) (v := .bool false) rfl (by kernel_rfl) (by kernel_rfl) (by kernel_rfl) (by kernel_rfl) (fun _ _ _ h => h) (.inl ⟨by kernel_rfl, fun V hV => by obtain ⟨hV1, hV2, hV3, hV4⟩ := hV; go_simp⟩) hHeld ?_
                    try simp only [Act.put, List.setIfInBounds_toArray, List.set_cons_zero, List.set_cons_succ]
                    refine take_slotC (i := 26) (d := some 8) (v := .bool false) rfl (by kernel_rfl) (by kernel_rfl) (by kernel_rfl) (by kernel_rfl) (fun _ _ _ h => h) (.inl ⟨by kernel_rfl, fun V hV => by obtain ⟨hV1, hV2, hV3, hV4⟩ := hV; go_simp⟩) hHeld ?_
                    try simp only [Act.put, List.setIfInBounds_toArray, List.set_cons_zero, List.set_cons_succ]
                    refine wpAnyH_done (by kernel_rfl) ?_ _
                    go_wp2_with fail
                    go_roundw
                    all_goals first
                      | exact ⟨q + 1, false, by omega, by go_num, rfl, fun hh => (hnf hh).elim, hch2⟩
                      | (simp [intOf]; omega)
                  · cases he2 : (strV z == s)
                    · have hnf : f < q + 1 → False := fun hfq => by
                        have hfe : f = q := by by_cases h0 : f < q; · exact absurd (hbb h0) (by simp)
                                               · omega
                        have h8 := F8.out
                        rw [hfe, ← HZ.out] at h8; rw [h8] at he2; simp at he2
                      go_wp2_with fail
                      refine wp_region_held_drew (S := fun V => V.cell? ⟨p, 3, none⟩ = some (.int .i64 e0) ∧ V.cell? ⟨p, 1, none⟩ = some (.int .i64 s) ∧ V.cell? ⟨g, 1, none⟩ = some (.slice (some ⟨b, off, none⟩) j k) ∧ V.cell? ⟨b, off + q, none⟩ = some (.int .i64 z)) (by kernel_rfl) hHeld0 (fun hHeld => ?_)
                      refine take_slotC (i := 0) (d := some 68) (v := .bool false) rfl (by kernel_rfl) (by kernel_rfl) (by kernel_rfl) (by kernel_rfl) (fun _ _ _ h => h) (.inl ⟨by kernel_rfl, fun V hV => by obtain ⟨hV1, hV2, hV3, hV4⟩ := hV; go_simp⟩) hHeld ?_
                      try simp only [Act.put, List.setIfInBounds_toArray, List.set_cons_zero, List.set_cons_succ]
                      refine take_slotC (i := 1) (d := some 69) (v := .bool false) rfl (by kernel_rfl) (by kernel_rfl) (by kernel_rfl) (by kernel_rfl) (fun _ _ _ h => h) (.inl ⟨by kernel_rfl, fun V hV => by obtain ⟨hV1, hV2, hV3, hV4⟩ := hV; go_simp⟩) hHeld ?_
                      try simp only [Act.put, List.setIfInBounds_toArray, List.set_cons_zero, List.set_cons_succ]
                      refine take_slotC (i := 2) (d := some 70) (v := .int .i64 ((d + (q : Int)) % 4)) rfl (by kernel_rfl) (by kernel_rfl) (by kernel_rfl) (by kernel_rfl) (fun _ _ _ h => h) (.inl ⟨by kernel_rfl, fun V hV => by obtain ⟨hV1, hV2, hV3, hV4⟩ := hV; go_simp⟩) hHeld ?_
                      try simp only [Act.put, List.setIfInBounds_toArray, List.set_cons_zero, List.set_cons_succ]
                      refine take_slotC (i := 3) (d := some 71) (v := .pointer (some ⟨p, 3, none⟩)) rfl (by kernel_rfl) (by kernel_rfl) (by kernel_rfl) (by kernel_rfl) (fun _ _ _ h => h) (.inl ⟨by kernel_rfl, fun V hV => by obtain ⟨hV1, hV2, hV3, hV4⟩ := hV; go_simp⟩) hHeld ?_
                      try simp only [Act.put, List.setIfInBounds_toArray, List.set_cons_zero, List.set_cons_succ]
                      refine take_slotC (i := 4) (d := some 72) (v := .int .i64 e0) rfl (by kernel_rfl) (by kernel_rfl) (by kernel_rfl) (by kernel_rfl) (fun _ _ _ h => h) (.inl ⟨by kernel_rfl, fun V hV => by obtain ⟨hV1, hV2, hV3, hV4⟩ := hV; go_simp⟩) hHeld ?_
                      try simp only [Act.put, List.setIfInBounds_toArray, List.set_cons_zero, List.set_cons_succ]
                      refine take_slotC (i := 5) (d := some 73) (v := .bool true) rfl (by kernel_rfl) (by kernel_rfl) (by kernel_rfl) (by kernel_rfl) (fun _ _ _ h => h) (.inl ⟨by kernel_rfl, fun V hV => by obtain ⟨hV1, hV2, hV3, hV4⟩ := hV; go_simp⟩) hHeld ?_
                      try simp only [Act.put, List.setIfInBounds_toArray, List.set_cons_zero, List.set_cons_succ]
                      refine take_slotC (i := 6) (d := some 74) (v := .bool true) rfl (by kernel_rfl) (by kernel_rfl) (by kernel_rfl) (by kernel_rfl) (fun _ _ _ h => h) (.inl ⟨by kernel_rfl, fun V hV => by obtain ⟨hV1, hV2, hV3, hV4⟩ := hV; go_simp⟩) hHeld ?_
                      try simp only [Act.put, List.setIfInBounds_toArray, List.set_cons_zero, List.set_cons_succ]
                      refine take_slotC (i := 7) (d := some 75) (v := .pointer (some ⟨g, 1, none⟩)) rfl (by kernel_rfl) (by kernel_rfl) (by kernel_rfl) (by kernel_rfl) (fun _ _ _ h => h) (.inl ⟨by kernel_rfl, fun V hV => by obtain ⟨hV1, hV2, hV3, hV4⟩ := hV; go_simp⟩) hHeld ?_
                      try simp only [Act.put, List.setIfInBounds_toArray, List.set_cons_zero, List.set_cons_succ]
                      refine take_slotC (i := 8) (d := some 76) (v := .slice (some ⟨b, off, none⟩) j k) rfl (by kernel_rfl) (by kernel_rfl) (by kernel_rfl) (by kernel_rfl) (fun _ _ _ h => h) (.inl ⟨by kernel_rfl, fun V hV => by obtain ⟨hV1, hV2, hV3, hV4⟩ := hV; go_simp⟩) hHeld ?_
                      try simp only [Act.put, List.setIfInBounds_toArray, List.set_cons_zero, List.set_cons_succ]
                      refine take_slotC (i := 9) (d := some 77) (v := .int .i64 (q : Int)) rfl (by kernel_rfl) (by kernel_rfl) (by kernel_rfl) (by kernel_rfl) (fun _ _ _ h => h) (.inl ⟨by kernel_rfl, fun V hV => by obtain ⟨hV1, hV2, hV3, hV4⟩ := hV; go_simp⟩) hHeld ?_
                      try simp only [Act.put, List.setIfInBounds_toArray, List.set_cons_zero, List.set_cons_succ]
                      refine take_slotC (i := 10) (d := some 78) (v := .pointer (some ⟨b, off + q, none⟩)) rfl (by kernel_rfl) (by kernel_rfl) (by kernel_rfl) (by kernel_rfl) (fun _ _ _ h => h) (.inl ⟨by kernel_rfl, fun V hV => by obtain ⟨hV1, hV2, hV3, hV4⟩ := hV; go_simp⟩) hHeld ?_
                      try simp only [Act.put, List.setIfInBounds_toArray, List.set_cons_zero, List.set_cons_succ]
                      refine take_slotC (i := 11) (d := some 79) (v := .int .i64 z) rfl (by kernel_rfl) (by kernel_rfl) (by kernel_rfl) (by kernel_rfl) (fun _ _ _ h => h) (.inl ⟨by kernel_rfl, fun V hV => by obtain ⟨hV1, hV2, hV3, hV4⟩ := hV; go_simp⟩) hHeld ?_
                      try simp only [Act.put, List.setIfInBounds_toArray, List.set_cons_zero, List.set_cons_succ]
                      refine take_slotC (i := 13) (d := some 81) (v := .pointer (some ⟨p, 1, none⟩)) rfl (by kernel_rfl) (by kernel_rfl) (by kernel_rfl) (by kernel_rfl) (fun _ _ _ h => h) (.inl ⟨by kernel_rfl, fun V hV => by obtain ⟨hV1, hV2, hV3, hV4⟩ := hV; go_simp⟩) hHeld ?_
                      try simp only [Act.put, List.setIfInBounds_toArray, List.set_cons_zero, List.set_cons_succ]
                      refine take_slotC (i := 14) (d := some 82) (v := .int .i64 s) rfl (by kernel_rfl) (by kernel_rfl) (by kernel_rfl) (by kernel_rfl) (fun _ _ _ h => h) (.inl ⟨by kernel_rfl, fun V hV => by obtain ⟨hV1, hV2, hV3, hV4⟩ := hV; go_simp⟩) hHeld ?_
                      try simp only [Act.put, List.setIfInBounds_toArray, List.set_cons_zero, List.set_cons_succ]
                      refine wpAnyH_ready (rs := [12]) (by kernel_rfl) (by simp) (AllReadyH.cons (i := 12) rfl (fun K' hK' => ?_) AllReadyH.nil)
                      go_simp
                      refine (spec_StrainOf z _).mono ?_
                      rintro e w' ⟨rfl, rfl⟩
                      refine hK'.out _ _ hHeld0 (fun hHeld => ?_)
                      clear hK'
                      try simp only [Act.put, List.setIfInBounds_toArray, List.set_cons_zero, List.set_cons_succ]
                      refine take_slotC (i := 15) (d := some 83) (v := .bool false) rfl (by kernel_rfl) (by kernel_rfl) (by kernel_rfl) (by kernel_rfl) (fun _ _ _ h => h) (.inl ⟨by kernel_rfl, fun V hV => by obtain ⟨hV1, hV2, hV3, hV4⟩ := hV; go_simp⟩) hHeld ?_
                      try simp only [Act.put, List.setIfInBounds_toArray, List.set_cons_zero, List.set_cons_succ]
                      refine take_slotC (i := 16) (d := some 84) (v := .bool false) rfl (by kernel_rfl) (by kernel_rfl) (by kernel_rfl) (by kernel_rfl) (fun _ _ _ h => h) (.inl ⟨by kernel_rfl, fun V hV => by obtain ⟨hV1, hV2, hV3, hV4⟩ := hV; go_simp⟩) hHeld ?_
                      try simp only [Act.put, List.setIfInBounds_toArray, List.set_cons_zero, List.set_cons_succ]
                      refine take_slotC (i := 17) (d := some 85) (v := .bool false) rfl (by kernel_rfl) (by kernel_rfl) (by kernel_rfl) (by kernel_rfl) (fun _ _ _ h => h) (.inl ⟨by kernel_rfl, fun V hV => by obtain ⟨hV1, hV2, hV3, hV4⟩ := hV; go_simp⟩) hHeld ?_
                      try simp only [Act.put, List.setIfInBounds_toArray, List.set_cons_zero, List.set_cons_succ]
                      refine take_slotC (i := 18) (d := some 86) (v := undef) rfl (by kernel_rfl) (by kernel_rfl) (by kernel_rfl) (by kernel_rfl) (fun _ _ _ h => h) (.inr ⟨by kernel_rfl, rfl⟩) hHeld ?_
                      try simp only [Act.put, List.setIfInBounds_toArray, List.set_cons_zero, List.set_cons_succ]
                      refine take_slotC (i := 19) (d := some 87) (v := undef) rfl (by kernel_rfl) (by kernel_rfl) (by kernel_rfl) (by kernel_rfl) (fun _ _ _ h => h) (.inr ⟨by kernel_rfl, rfl⟩) hHeld ?_
                      try simp only [Act.put, List.setIfInBounds_toArray, List.set_cons_zero, List.set_cons_succ]
                      refine take_slotC (i := 20) (d := some 88) (v := undef) rfl (by kernel_rfl) (by kernel_rfl) (by kernel_rfl) (by kernel_rfl) (fun _ _ _ h => h) (.inr ⟨by kernel_rfl, rfl⟩) hHeld ?_
                      try simp only [Act.put, List.setIfInBounds_toArray, List.set_cons_zero, List.set_cons_succ]
                      refine take_slotC (i := 21) (d := some 89) (v := undef) rfl (by kernel_rfl) (by kernel_rfl) (by kernel_rfl) (by kernel_rfl) (fun _ _ _ h => h) (.inr ⟨by kernel_rfl, rfl⟩) hHeld ?_
                      try simp only [Act.put, List.setIfInBounds_toArray, List.set_cons_zero, List.set_cons_succ]
                      refine take_slotC (i := 22) (d := some 90) (v := undef) rfl (by kernel_rfl) (by kernel_rfl) (by kernel_rfl) (by kernel_rfl) (fun _ _ _ h => h) (.inr ⟨by kernel_rfl, rfl⟩) hHeld ?_
                      try simp only [Act.put, List.setIfInBounds_toArray, List.set_cons_zero, List.set_cons_succ]
                      refine take_slotC (i := 23) (d := some 91) (v := undef) rfl (by kernel_rfl) (by kernel_rfl) (by kernel_rfl) (by kernel_rfl) (fun _ _ _ h => h) (.inr ⟨by kernel_rfl, rfl⟩) hHeld ?_
                      try simp only [Act.put, List.setIfInBounds_toArray, List.set_cons_zero, List.set_cons_succ]
                      refine take_slotC (i := 24) (d := some 92) (v := .bool false) rfl (by kernel_rfl) (by kernel_rfl) (by kernel_rfl) (by kernel_rfl) (fun _ _ _ h => h) (.inl ⟨by kernel_rfl, fun V hV => by obtain ⟨hV1, hV2, hV3, hV4⟩ := hV; go_simp⟩) hHeld ?_
                      try simp only [Act.put, List.setIfInBounds_toArray, List.set_cons_zero, List.set_cons_succ]
                      refine take_slotC (i := 25) (d := some 93) (v := .bool false) rfl (by kernel_rfl) (by kernel_rfl) (by kernel_rfl) (by kernel_rfl) (fun _ _ _ h => h) (.inl ⟨by kernel_rfl, fun V hV => by obtain ⟨hV1, hV2, hV3, hV4⟩ := hV; go_simp⟩) hHeld ?_
                      try simp only [Act.put, List.setIfInBounds_toArray, List.set_cons_zero, List.set_cons_succ]
                      refine take_slotC (i := 26) (d := some 8) (v := .bool false) rfl (by kernel_rfl) (by kernel_rfl) (by kernel_rfl) (by kernel_rfl) (fun _ _ _ h => h) (.inl ⟨by kernel_rfl, fun V hV => by obtain ⟨hV1, hV2, hV3, hV4⟩ := hV; go_simp⟩) hHeld ?_
                      try simp only [Act.put, List.setIfInBounds_toArray, List.set_cons_zero, List.set_cons_succ]
                      refine wpAnyH_done (by kernel_rfl) ?_ _
                      go_wp2_with fail
                      go_roundw
                      all_goals first
                        | exact ⟨q + 1, false, by omega, by go_num, rfl, fun hh => (hnf hh).elim, hch2⟩
                        | (simp [intOf]; omega)
                    · by_cases he3 : 3 ≤ z
                      · have he3d : (decide (z ≥ 3)) = true := decide_eq_true he3
                        go_wp2_with fail
                        refine wp_region_held_drew (S := fun V => V.cell? ⟨p, 3, none⟩ = some (.int .i64 e0) ∧ V.cell? ⟨p, 1, none⟩ = some (.int .i64 s) ∧ V.cell? ⟨g, 1, none⟩ = some (.slice (some ⟨b, off, none⟩) j k) ∧ V.cell? ⟨b, off + q, none⟩ = some (.int .i64 z)) (by kernel_rfl) hHeld0 (fun hHeld => ?_)
                        refine take_slotC (i := 0) (d := some 68) (v := .bool false) rfl (by kernel_rfl) (by kernel_rfl) (by kernel_rfl) (by kernel_rfl) (fun _ _ _ h => h) (.inl ⟨by kernel_rfl, fun V hV => by obtain ⟨hV1, hV2, hV3, hV4⟩ := hV; go_simp⟩) hHeld ?_
                        try simp only [Act.put, List.setIfInBounds_toArray, List.set_cons_zero, List.set_cons_succ]
                        refine take_slotC (i := 1) (d := some 69) (v := .bool false) rfl (by kernel_rfl) (by kernel_rfl) (by kernel_rfl) (by kernel_rfl) (fun _ _ _ h => h) (.inl ⟨by kernel_rfl, fun V hV => by obtain ⟨hV1, hV2, hV3, hV4⟩ := hV; go_simp⟩) hHeld ?_
                        try simp only [Act.put, List.setIfInBounds_toArray, List.set_cons_zero, List.set_cons_succ]
                        refine take_slotC (i := 2) (d := some 70) (v := .int .i64 ((d + (q : Int)) % 4)) rfl (by kernel_rfl) (by kernel_rfl) (by kernel_rfl) (by kernel_rfl) (fun _ _ _ h => h) (.inl ⟨by kernel_rfl, fun V hV => by obtain ⟨hV1, hV2, hV3, hV4⟩ := hV; go_simp⟩) hHeld ?_
                        try simp only [Act.put, List.setIfInBounds_toArray, List.set_cons_zero, List.set_cons_succ]
                        refine take_slotC (i := 3) (d := some 71) (v := .pointer (some ⟨p, 3, none⟩)) rfl (by kernel_rfl) (by kernel_rfl) (by kernel_rfl) (by kernel_rfl) (fun _ _ _ h => h) (.inl ⟨by kernel_rfl, fun V hV => by obtain ⟨hV1, hV2, hV3, hV4⟩ := hV; go_simp⟩) hHeld ?_
                        try simp only [Act.put, List.setIfInBounds_toArray, List.set_cons_zero, List.set_cons_succ]
                        refine take_slotC (i := 4) (d := some 72) (v := .int .i64 e0) rfl (by kernel_rfl) (by kernel_rfl) (by kernel_rfl) (by kernel_rfl) (fun _ _ _ h => h) (.inl ⟨by kernel_rfl, fun V hV => by obtain ⟨hV1, hV2, hV3, hV4⟩ := hV; go_simp⟩) hHeld ?_
                        try simp only [Act.put, List.setIfInBounds_toArray, List.set_cons_zero, List.set_cons_succ]
                        refine take_slotC (i := 5) (d := some 73) (v := .bool true) rfl (by kernel_rfl) (by kernel_rfl) (by kernel_rfl) (by kernel_rfl) (fun _ _ _ h => h) (.inl ⟨by kernel_rfl, fun V hV => by obtain ⟨hV1, hV2, hV3, hV4⟩ := hV; go_simp⟩) hHeld ?_
                        try simp only [Act.put, List.setIfInBounds_toArray, List.set_cons_zero, List.set_cons_succ]
                        refine take_slotC (i := 6) (d := some 74) (v := .bool true) rfl (by kernel_rfl) (by kernel_rfl) (by kernel_rfl) (by kernel_rfl) (fun _ _ _ h => h) (.inl ⟨by kernel_rfl, fun V hV => by obtain ⟨hV1, hV2, hV3, hV4⟩ := hV; go_simp⟩) hHeld ?_
                        try simp only [Act.put, List.setIfInBounds_toArray, List.set_cons_zero, List.set_cons_succ]
                        refine take_slotC (i := 7) (d := some 75) (v := .pointer (some ⟨g, 1, none⟩)) rfl (by kernel_rfl) (by kernel_rfl) (by kernel_rfl) (by kernel_rfl) (fun _ _ _ h => h) (.inl ⟨by kernel_rfl, fun V hV => by obtain ⟨hV1, hV2, hV3, hV4⟩ := hV; go_simp⟩) hHeld ?_
                        try simp only [Act.put, List.setIfInBounds_toArray, List.set_cons_zero, List.set_cons_succ]
                        refine take_slotC (i := 8) (d := some 76) (v := .slice (some ⟨b, off, none⟩) j k) rfl (by kernel_rfl) (by kernel_rfl) (by kernel_rfl) (by kernel_rfl) (fun _ _ _ h => h) (.inl ⟨by kernel_rfl, fun V hV => by obtain ⟨hV1, hV2, hV3, hV4⟩ := hV; go_simp⟩) hHeld ?_
                        try simp only [Act.put, List.setIfInBounds_toArray, List.set_cons_zero, List.set_cons_succ]
                        refine take_slotC (i := 9) (d := some 77) (v := .int .i64 (q : Int)) rfl (by kernel_rfl) (by kernel_rfl) (by kernel_rfl) (by kernel_rfl) (fun _ _ _ h => h) (.inl ⟨by kernel_rfl, fun V hV => by obtain ⟨hV1, hV2, hV3, hV4⟩ := hV; go_simp⟩) hHeld ?_
                        try simp only [Act.put, List.setIfInBounds_toArray, List.set_cons_zero, List.set_cons_succ]
                        refine take_slotC (i := 10) (d := some 78) (v := .pointer (some ⟨b, off + q, none⟩)) rfl (by kernel_rfl) (by kernel_rfl) (by kernel_rfl) (by kernel_rfl) (fun _ _ _ h => h) (.inl ⟨by kernel_rfl, fun V hV => by obtain ⟨hV1, hV2, hV3, hV4⟩ := hV; go_simp⟩) hHeld ?_
                        try simp only [Act.put, List.setIfInBounds_toArray, List.set_cons_zero, List.set_cons_succ]
                        refine take_slotC (i := 11) (d := some 79) (v := .int .i64 z) rfl (by kernel_rfl) (by kernel_rfl) (by kernel_rfl) (by kernel_rfl) (fun _ _ _ h => h) (.inl ⟨by kernel_rfl, fun V hV => by obtain ⟨hV1, hV2, hV3, hV4⟩ := hV; go_simp⟩) hHeld ?_
                        try simp only [Act.put, List.setIfInBounds_toArray, List.set_cons_zero, List.set_cons_succ]
                        refine take_slotC (i := 13) (d := some 81) (v := .pointer (some ⟨p, 1, none⟩)) rfl (by kernel_rfl) (by kernel_rfl) (by kernel_rfl) (by kernel_rfl) (fun _ _ _ h => h) (.inl ⟨by kernel_rfl, fun V hV => by obtain ⟨hV1, hV2, hV3, hV4⟩ := hV; go_simp⟩) hHeld ?_
                        try simp only [Act.put, List.setIfInBounds_toArray, List.set_cons_zero, List.set_cons_succ]
                        refine take_slotC (i := 14) (d := some 82) (v := .int .i64 s) rfl (by kernel_rfl) (by kernel_rfl) (by kernel_rfl) (by kernel_rfl) (fun _ _ _ h => h) (.inl ⟨by kernel_rfl, fun V hV => by obtain ⟨hV1, hV2, hV3, hV4⟩ := hV; go_simp⟩) hHeld ?_
                        try simp only [Act.put, List.setIfInBounds_toArray, List.set_cons_zero, List.set_cons_succ]
                        refine wpAnyH_ready (rs := [12]) (by kernel_rfl) (by simp) (AllReadyH.cons (i := 12) rfl (fun K' hK' => ?_) AllReadyH.nil)
                        go_simp
                        refine (spec_StrainOf z _).mono ?_
                        rintro e w' ⟨rfl, rfl⟩
                        refine hK'.out _ _ hHeld0 (fun hHeld => ?_)
                        clear hK'
                        try simp only [Act.put, List.setIfInBounds_toArray, List.set_cons_zero, List.set_cons_succ]
                        refine take_slotC (i := 15) (d := some 83) (v := .bool true) rfl (by kernel_rfl) (by kernel_rfl) (by kernel_rfl) (by kernel_rfl) (fun _ _ _ h => h) (.inl ⟨by kernel_rfl, fun V hV => by obtain ⟨hV1, hV2, hV3, hV4⟩ := hV; go_simp⟩) hHeld ?_
                        try simp only [Act.put, List.setIfInBounds_toArray, List.set_cons_zero, List.set_cons_succ]
                        refine take_slotC (i := 16) (d := some 84) (v := .bool true) rfl (by kernel_rfl) (by kernel_rfl) (by kernel_rfl) (by kernel_rfl) (fun _ _ _ h => h) (.inl ⟨by kernel_rfl, fun V hV => by obtain ⟨hV1, hV2, hV3, hV4⟩ := hV; go_simp⟩) hHeld ?_
                        try simp only [Act.put, List.setIfInBounds_toArray, List.set_cons_zero, List.set_cons_succ]
                        refine take_slotC (i := 17) (d := some 85) (v := .bool true) rfl (by kernel_rfl) (by kernel_rfl) (by kernel_rfl) (by kernel_rfl) (fun _ _ _ h => h) (.inl ⟨by kernel_rfl, fun V hV => by obtain ⟨hV1, hV2, hV3, hV4⟩ := hV; go_simp⟩) hHeld ?_
                        try simp only [Act.put, List.setIfInBounds_toArray, List.set_cons_zero, List.set_cons_succ]
                        refine take_slotC (i := 18) (d := some 86) (v := .pointer (some ⟨g, 1, none⟩)) rfl (by kernel_rfl) (by kernel_rfl) (by kernel_rfl) (by kernel_rfl) (fun _ _ _ h => h) (.inl ⟨by kernel_rfl, fun V hV => by obtain ⟨hV1, hV2, hV3, hV4⟩ := hV; go_simp⟩) hHeld ?_
                        try simp only [Act.put, List.setIfInBounds_toArray, List.set_cons_zero, List.set_cons_succ]
                        refine take_slotC (i := 19) (d := some 87) (v := .slice (some ⟨b, off, none⟩) j k) rfl (by kernel_rfl) (by kernel_rfl) (by kernel_rfl) (by kernel_rfl) (fun _ _ _ h => h) (.inl ⟨by kernel_rfl, fun V hV => by obtain ⟨hV1, hV2, hV3, hV4⟩ := hV; go_simp⟩) hHeld ?_
                        try simp only [Act.put, List.setIfInBounds_toArray, List.set_cons_zero, List.set_cons_succ]
                        refine take_slotC (i := 20) (d := some 88) (v := .int .i64 (q : Int)) rfl (by kernel_rfl) (by kernel_rfl) (by kernel_rfl) (by kernel_rfl) (fun _ _ _ h => h) (.inl ⟨by kernel_rfl, fun V hV => by obtain ⟨hV1, hV2, hV3, hV4⟩ := hV; go_simp⟩) hHeld ?_
                        try simp only [Act.put, List.setIfInBounds_toArray, List.set_cons_zero, List.set_cons_succ]
                        refine take_slotC (i := 21) (d := some 89) (v := .pointer (some ⟨b, off + q, none⟩)) rfl (by kernel_rfl) (by kernel_rfl) (by kernel_rfl) (by kernel_rfl) (fun _ _ _ h => h) (.inl ⟨by kernel_rfl, fun V hV => by obtain ⟨hV1, hV2, hV3, hV4⟩ := hV; go_simp⟩) hHeld ?_
                        try simp only [Act.put, List.setIfInBounds_toArray, List.set_cons_zero, List.set_cons_succ]
                        refine take_slotC (i := 22) (d := some 90) (v := .int .i64 z) rfl (by kernel_rfl) (by kernel_rfl) (by kernel_rfl) (by kernel_rfl) (fun _ _ _ h => h) (.inl ⟨by kernel_rfl, fun V hV => by obtain ⟨hV1, hV2, hV3, hV4⟩ := hV; go_simp⟩) hHeld ?_
                        try simp only [Act.put, List.setIfInBounds_toArray, List.set_cons_zero, List.set_cons_succ]
                        refine take_slotC (i := 23) (d := some 91) (v := .bool true) rfl (by kernel_rfl) (by kernel_rfl) (by kernel_rfl) (by kernel_rfl) (fun _ _ _ h => h) (.inl ⟨by kernel_rfl, fun V hV => by obtain ⟨hV1, hV2, hV3, hV4⟩ := hV; go_simp⟩) hHeld ?_
                        try simp only [Act.put, List.setIfInBounds_toArray, List.set_cons_zero, List.set_cons_succ]
                        refine take_slotC (i := 24) (d := some 92) (v := .bool true) rfl (by kernel_rfl) (by kernel_rfl) (by kernel_rfl) (by kernel_rfl) (fun _ _ _ h => h) (.inl ⟨by kernel_rfl, fun V hV => by obtain ⟨hV1, hV2, hV3, hV4⟩ := hV; go_simp⟩) hHeld ?_
                        try simp only [Act.put, List.setIfInBounds_toArray, List.set_cons_zero, List.set_cons_succ]
                        refine take_slotC (i := 25) (d := some 93) (v := .bool true) rfl (by kernel_rfl) (by kernel_rfl) (by kernel_rfl) (by kernel_rfl) (fun _ _ _ h => h) (.inl ⟨by kernel_rfl, fun V hV => by obtain ⟨hV1, hV2, hV3, hV4⟩ := hV; go_simp⟩) hHeld ?_
                        try simp only [Act.put, List.setIfInBounds_toArray, List.set_cons_zero, List.set_cons_succ]
                        refine take_slotC (i := 26) (d := some 8) (v := .bool true) rfl (by kernel_rfl) (by kernel_rfl) (by kernel_rfl) (by kernel_rfl) (fun _ _ _ h => h) (.inl ⟨by kernel_rfl, fun V hV => by obtain ⟨hV1, hV2, hV3, hV4⟩ := hV; go_simp⟩) hHeld ?_
                        try simp only [Act.put, List.setIfInBounds_toArray, List.set_cons_zero, List.set_cons_succ]
                        refine wpAnyH_done (by kernel_rfl) ?_ _
                        go_wp2_with fail
                        go_roundw
                        all_goals first
                          | exact ⟨q + 1, true, by omega, by go_num, rfl, fun _ => rfl, hch2⟩
                          | (simp [intOf]; omega)
                      · have he3d : (decide (z ≥ 3)) = false := decide_eq_false he3
                        have hnf : f < q + 1 → False := fun hfq => by
                          have hfe : f = q := by by_cases h0 : f < q; · exact absurd (hbb h0) (by simp)
                                                 · omega
                          have h9 := F9.out
                          rw [hfe, ← HZ.out] at h9; exact he3 h9
                        go_wp2_with fail
                        refine wp_region_held_drew (S := fun V => V.cell? ⟨p, 3, none⟩ = some (.int .i64 e0) ∧ V.cell? ⟨p, 1, none⟩ = some (.int .i64 s) ∧ V.cell? ⟨g, 1, none⟩ = some (.slice (some ⟨b, off, none⟩) j k) ∧ V.cell? ⟨b, off + q, none⟩ = some (.int .i64 z)) (by kernel_rfl) hHeld0 (fun hHeld => ?_)
                        refine take_slotC (i := 0) (d := some 68) (v := .bool false) rfl (by kernel_rfl) (by kernel_rfl) (by kernel_rfl) (by kernel_rfl) (fun _ _ _ h => h) (.inl ⟨by kernel_rfl, fun V hV => by obtain ⟨hV1, hV2, hV3, hV4⟩ := hV; go_simp⟩) hHeld ?_
                        try simp only [Act.put, List.setIfInBounds_toArray, List.set_cons_zero, List.set_cons_succ]
                        refine take_slotC (i := 1) (d := some 69) (v := .bool false) rfl (by kernel_rfl) (by kernel_rfl) (by kernel_rfl) (by kernel_rfl) (fun _ _ _ h => h) (.inl ⟨by kernel_rfl, fun V hV => by obtain ⟨hV1, hV2, hV3, hV4⟩ := hV; go_simp⟩) hHeld ?_
                        try simp only [Act.put, List.setIfInBounds_toArray, List.set_cons_zero, List.set_cons_succ]
                        refine take_slotC (i := 2) (d := some 70) (v := .int .i64 ((d + (q : Int)) % 4)) rfl (by kernel_rfl) (by kernel_rfl) (by kernel_rfl) (by kernel_rfl) (fun _ _ _ h => h) (.inl ⟨by kernel_rfl, fun V hV => by obtain ⟨hV1, hV2, hV3, hV4⟩ := hV; go_simp⟩) hHeld ?_
                        try simp only [Act.put, List.setIfInBounds_toArray, List.set_cons_zero, List.set_cons_succ]
                        refine take_slotC (i := 3) (d := some 71) (v := .pointer (some ⟨p, 3, none⟩)) rfl (by kernel_rfl) (by kernel_rfl) (by kernel_rfl) (by kernel_rfl) (fun _ _ _ h => h) (.inl ⟨by kernel_rfl, fun V hV => by obtain ⟨hV1, hV2, hV3, hV4⟩ := hV; go_simp⟩) hHeld ?_
                        try simp only [Act.put, List.setIfInBounds_toArray, List.set_cons_zero, List.set_cons_succ]
                        refine take_slotC (i := 4) (d := some 72) (v := .int .i64 e0) rfl (by kernel_rfl) (by kernel_rfl) (by kernel_rfl) (by kernel_rfl) (fun _ _ _ h => h) (.inl ⟨by kernel_rfl, fun V hV => by obtain ⟨hV1, hV2, hV3, hV4⟩ := hV; go_simp⟩) hHeld ?_
                        try simp only [Act.put, List.setIfInBounds_toArray, List.set_cons_zero, List.set_cons_succ]
                        refine take_slotC (i := 5) (d := some 73) (v := .bool true) rfl (by kernel_rfl) (by kernel_rfl) (by kernel_rfl) (by kernel_rfl) (fun _ _ _ h => h) (.inl ⟨by kernel_rfl, fun V hV => by obtain ⟨hV1, hV2, hV3, hV4⟩ := hV; go_simp⟩) hHeld ?_
                        try simp only [Act.put, List.setIfInBounds_toArray, List.set_cons_zero, List.set_cons_succ]
                        refine take_slotC (i := 6) (d := some 74) (v := .bool true) rfl (by kernel_rfl) (by kernel_rfl) (by kernel_rfl) (by kernel_rfl) (fun _ _ _ h => h) (.inl ⟨by kernel_rfl, fun V hV => by obtain ⟨hV1, hV2, hV3, hV4⟩ := hV; go_simp⟩) hHeld ?_
                        try simp only [Act.put, List.setIfInBounds_toArray, List.set_cons_zero, List.set_cons_succ]
                        refine take_slotC (i := 7) (d := some 75) (v := .pointer (some ⟨g, 1, none⟩)) rfl (by kernel_rfl) (by kernel_rfl) (by kernel_rfl) (by kernel_rfl) (fun _ _ _ h => h) (.inl ⟨by kernel_rfl, fun V hV => by obtain ⟨hV1, hV2, hV3, hV4⟩ := hV; go_simp⟩) hHeld ?_
                        try simp only [Act.put, List.setIfInBounds_toArray, List.set_cons_zero, List.set_cons_succ]
                        refine take_slotC (i := 8) (d := some 76) (v := .slice (some ⟨b, off, none⟩) j k) rfl (by kernel_rfl) (by kernel_rfl) (by kernel_rfl) (by kernel_rfl) (fun _ _ _ h => h) (.inl ⟨by kernel_rfl, fun V hV => by obtain ⟨hV1, hV2, hV3, hV4⟩ := hV; go_simp⟩) hHeld ?_
                        try simp only [Act.put, List.setIfInBounds_toArray, List.set_cons_zero, List.set_cons_succ]
                        refine take_slotC (i := 9) (d := some 77) (v := .int .i64 (q : Int)) rfl (by kernel_rfl) (by kernel_rfl) (by kernel_rfl) (by kernel_rfl) (fun _ _ _ h => h) (.inl ⟨by kernel_rfl, fun V hV => by obtain ⟨hV1, hV2, hV3, hV4⟩ := hV; go_simp⟩) hHeld ?_
                        try simp only [Act.put, List.setIfInBounds_toArray, List.set_cons_zero, List.set_cons_succ]
                        refine take_slotC (i := 10) (d := some 78) (v := .pointer (some ⟨b, off + q, none⟩)) rfl (by kernel_rfl) (by kernel_rfl) (by kernel_rfl) (by kernel_rfl) (fun _ _ _ h => h) (.inl ⟨by kernel_rfl, fun V hV => by obtain ⟨hV1, hV2, hV3, hV4⟩ := hV; go_simp⟩) hHeld ?_
                        try simp only [Act.put, List.setIfInBounds_toArray, List.set_cons_zero, List.set_cons_succ]
                        refine take_slotC (i := 11) (d := some 79) (v := .int .i64 z) rfl (by kernel_rfl) (by kernel_rfl) (by kernel_rfl) (by kernel_rfl) (fun _ _ _ h => h) (.inl ⟨by kernel_rfl, fun V hV => by obtain ⟨hV1, hV2, hV3, hV4⟩ := hV; go_simp⟩) hHeld ?_
                        try simp only [Act.put, List.setIfInBounds_toArray, List.set_cons_zero, List.set_cons_succ]
                        refine take_slotC (i := 13) (d := some 81) (v := .pointer (some ⟨p, 1, none⟩)) rfl (by kernel_rfl) (by kernel_rfl) (by kernel_rfl) (by kernel_rfl) (fun _ _ _ h => h) (.inl ⟨by kernel_rfl, fun V hV => by obtain ⟨hV1, hV2, hV3, hV4⟩ := hV; go_simp⟩) hHeld ?_
                        try simp only [Act.put, List.setIfInBounds_toArray, List.set_cons_zero, List.set_cons_succ]
                        refine take_slotC (i := 14) (d := some 82) (v := .int .i64 s) rfl (by kernel_rfl) (by kernel_rfl) (by kernel_rfl) (by kernel_rfl) (fun _ _ _ h => h) (.inl ⟨by kernel_rfl, fun V hV => by obtain ⟨hV1, hV2, hV3, hV4⟩ := hV; go_simp⟩) hHeld ?_
                        try simp only [Act.put, List.setIfInBounds_toArray, List.set_cons_zero, List.set_cons_succ]
                        refine wpAnyH_ready (rs := [12]) (by kernel_rfl) (by simp) (AllReadyH.cons (i := 12) rfl (fun K' hK' => ?_) AllReadyH.nil)
                        go_simp
                        refine (spec_StrainOf z _).mono ?_
                        rintro e w' ⟨rfl, rfl⟩
                        refine hK'.out _ _ hHeld0 (fun hHeld => ?_)
                        clear hK'
                        try simp only [Act.put, List.setIfInBounds_toArray, List.set_cons_zero, List.set_cons_succ]
                        refine take_slotC (i := 15) (d := some 83) (v := .bool true) rfl (by kernel_rfl) (by kernel_rfl) (by kernel_rfl) (by kernel_rfl) (fun _ _ _ h => h) (.inl ⟨by kernel_rfl, fun V hV => by obtain ⟨hV1, hV2, hV3, hV4⟩ := hV; go_simp⟩) hHeld ?_
                        try simp only [Act.put, List.setIfInBounds_toArray, List.set_cons_zero, List.set_cons_succ]
                        refine take_slotC (i := 16) (d := some 84) (v := .bool true) rfl (by kernel_rfl) (by kernel_rfl) (by kernel_rfl) (by kernel_rfl) (fun _ _ _ h => h) (.inl ⟨by kernel_rfl, fun V hV => by obtain ⟨hV1, hV2, hV3, hV4⟩ := hV; go_simp⟩) hHeld ?_
                        try simp only [Act.put, List.setIfInBounds_toArray, List.set_cons_zero, List.set_cons_succ]
                        refine take_slotC (i := 17) (d := some 85) (v := .bool true) rfl (by kernel_rfl) (by kernel_rfl) (by kernel_rfl) (by kernel_rfl) (fun _ _ _ h => h) (.inl ⟨by kernel_rfl, fun V hV => by obtain ⟨hV1, hV2, hV3, hV4⟩ := hV; go_simp⟩) hHeld ?_
                        try simp only [Act.put, List.setIfInBounds_toArray, List.set_cons_zero, List.set_cons_succ]
                        refine take_slotC (i := 18) (d := some 86) (v := .pointer (some ⟨g, 1, none⟩)) rfl (by kernel_rfl) (by kernel_rfl) (by kernel_rfl) (by kernel_rfl) (fun _ _ _ h => h) (.inl ⟨by kernel_rfl, fun V hV => by obtain ⟨hV1, hV2, hV3, hV4⟩ := hV; go_simp⟩) hHeld ?_
                        try simp only [Act.put, List.setIfInBounds_toArray, List.set_cons_zero, List.set_cons_succ]
                        refine take_slotC (i := 19) (d := some 87) (v := .slice (some ⟨b, off, none⟩) j k) rfl (by kernel_rfl) (by kernel_rfl) (by kernel_rfl) (by kernel_rfl) (fun _ _ _ h => h) (.inl ⟨by kernel_rfl, fun V hV => by obtain ⟨hV1, hV2, hV3, hV4⟩ := hV; go_simp⟩) hHeld ?_
                        try simp only [Act.put, List.setIfInBounds_toArray, List.set_cons_zero, List.set_cons_succ]
                        refine take_slotC (i := 20) (d := some 88) (v := .int .i64 (q : Int)) rfl (by kernel_rfl) (by kernel_rfl) (by kernel_rfl) (by kernel_rfl) (fun _ _ _ h => h) (.inl ⟨by kernel_rfl, fun V hV => by obtain ⟨hV1, hV2, hV3, hV4⟩ := hV; go_simp⟩) hHeld ?_
                        try simp only [Act.put, List.setIfInBounds_toArray, List.set_cons_zero, List.set_cons_succ]
                        refine take_slotC (i := 21) (d := some 89) (v := .pointer (some ⟨b, off + q, none⟩)) rfl (by kernel_rfl) (by kernel_rfl) (by kernel_rfl) (by kernel_rfl) (fun _ _ _ h => h) (.inl ⟨by kernel_rfl, fun V hV => by obtain ⟨hV1, hV2, hV3, hV4⟩ := hV; go_simp⟩) hHeld ?_
                        try simp only [Act.put, List.setIfInBounds_toArray, List.set_cons_zero, List.set_cons_succ]
                        refine take_slotC (i := 22) (d := some 90) (v := .int .i64 z) rfl (by kernel_rfl) (by kernel_rfl) (by kernel_rfl) (by kernel_rfl) (fun _ _ _ h => h) (.inl ⟨by kernel_rfl, fun V hV => by obtain ⟨hV1, hV2, hV3, hV4⟩ := hV; go_simp⟩) hHeld ?_
                        try simp only [Act.put, List.setIfInBounds_toArray, List.set_cons_zero, List.set_cons_succ]
                        refine take_slotC (i := 23) (d := some 91) (v := .bool false) rfl (by kernel_rfl) (by kernel_rfl) (by kernel_rfl) (by kernel_rfl) (fun _ _ _ h => h) (.inl ⟨by kernel_rfl, fun V hV => by obtain ⟨hV1, hV2, hV3, hV4⟩ := hV; go_simp⟩) hHeld ?_
                        try simp only [Act.put, List.setIfInBounds_toArray, List.set_cons_zero, List.set_cons_succ]
                        refine take_slotC (i := 24) (d := some 92) (v := .bool false) rfl (by kernel_rfl) (by kernel_rfl) (by kernel_rfl) (by kernel_rfl) (fun _ _ _ h => h) (.inl ⟨by kernel_rfl, fun V hV => by obtain ⟨hV1, hV2, hV3, hV4⟩ := hV; go_simp⟩) hHeld ?_
                        try simp only [Act.put, List.setIfInBounds_toArray, List.set_cons_zero, List.set_cons_succ]
                        refine take_slotC (i := 25) (d := some 93) (v := .bool false) rfl (by kernel_rfl) (by kernel_rfl) (by kernel_rfl) (by kernel_rfl) (fun _ _ _ h => h) (.inl ⟨by kernel_rfl, fun V hV => by obtain ⟨hV1, hV2, hV3, hV4⟩ := hV; go_simp⟩) hHeld ?_
                        try simp only [Act.put, List.setIfInBounds_toArray, List.set_cons_zero, List.set_cons_succ]
                        refine take_slotC (i := 26) (d := some 8) (v := .bool false) rfl (by kernel_rfl) (by kernel_rfl) (by kernel_rfl) (by kernel_rfl) (fun _ _ _ h => h) (.inl ⟨by kernel_rfl, fun V hV => by obtain ⟨hV1, hV2, hV3, hV4⟩ := hV; go_simp⟩) hHeld ?_
                        try simp only [Act.put, List.setIfInBounds_toArray, List.set_cons_zero, List.set_cons_succ]
                        refine wpAnyH_done (by kernel_rfl) ?_ _
                        go_wp2_with fail
                        go_roundw
                        all_goals first
                          | exact ⟨q + 1, false, by omega, by go_num, rfl, fun hh => (hnf hh).elim, hch2⟩
                          | (simp [intOf]; omega)
                · go_wp2_with fail
                  refine wp_region_held_drew (S := fun V => V.cell? ⟨p, 3, none⟩ = some (.int .i64 e0) ∧ V.cell? ⟨p, 1, none⟩ = some (.int .i64 s) ∧ V.cell? ⟨g, 1, none⟩ = some (.slice (some ⟨b, off, none⟩) j k) ∧ V.cell? ⟨b, off + q, none⟩ = some (.int .i64 z)) (by kernel_rfl) hHeld0 (fun hHeld => ?_)
                  refine take_slotC (i := 0) (d := some 68) (v := .bool true) rfl (by kernel_rfl) (by kernel_rfl) (by kernel_rfl) (by kernel_rfl) (fun _ _ _ h => h) (.inl ⟨by kernel_rfl, fun V hV => by obtain ⟨hV1, hV2, hV3, hV4⟩ := hV; go_simp⟩) hHeld ?_
                  try simp only [Act.put, List.setIfInBounds_toArray, List.set_cons_zero, List.set_cons_succ]
                  refine take_slotC (i := 1) (d := some 69) (v := .bool true) rfl (by kernel_rfl) (by kernel_rfl) (by kernel_rfl) (by kernel_rfl) (fun _ _ _ h => h) (.inl ⟨by kernel_rfl, fun V hV => by obtain ⟨hV1, hV2, hV3, hV4⟩ := hV; go_simp⟩) hHeld ?_
                  try simp only [Act.put, List.setIfInBounds_toArray, List.set_cons_zero, List.set_cons_succ]
                  refine take_slotC (i := 2) (d := some 70) (v := undef) rfl (by kernel_rfl) (by kernel_rfl) (by kernel_rfl) (by kernel_rfl) (fun _ _ _ h => h) (.inr ⟨by kernel_rfl, rfl⟩) hHeld ?_
                  try simp only [Act.put, List.setIfInBounds_toArray, List.set_cons_zero, List.set_cons_succ]
                  refine take_slotC (i := 3) (d := some 71) (v := undef) rfl (by kernel_rfl) (by kernel_rfl) (by kernel_rfl) (by kernel_rfl) (fun _ _ _ h => h) (.inr ⟨by kernel_rfl, rfl⟩) hHeld ?_
                  try simp only [Act.put, List.setIfInBounds_toArray, List.set_cons_zero, List.set_cons_succ]
                  refine take_slotC (i := 4) (d := some 72) (v := undef) rfl (by kernel_rfl) (by kernel_rfl) (by kernel_rfl) (by kernel_rfl) (fun _ _ _ h => h) (.inr ⟨by kernel_rfl, rfl⟩) hHeld ?_
                  try simp only [Act.put, List.setIfInBounds_toArray, List.set_cons_zero, List.set_cons_succ]
                  refine take_slotC (i := 5) (d := some 73) (v := undef) rfl (by kernel_rfl) (by kernel_rfl) (by kernel_rfl) (by kernel_rfl) (fun _ _ _ h => h) (.inr ⟨by kernel_rfl, rfl⟩) hHeld ?_
                  try simp only [Act.put, List.setIfInBounds_toArray, List.set_cons_zero, List.set_cons_succ]
                  refine take_slotC (i := 6) (d := some 74) (v := undef) rfl (by kernel_rfl) (by kernel_rfl) (by kernel_rfl) (by kernel_rfl) (fun _ _ _ h => h) (.inr ⟨by kernel_rfl, rfl⟩) hHeld ?_
                  try simp only [Act.put, List.setIfInBounds_toArray, List.set_cons_zero, List.set_cons_succ]
                  refine take_slotC (i := 7) (d := some 75) (v := undef) rfl (by kernel_rfl) (by kernel_rfl) (by kernel_rfl) (by kernel_rfl) (fun _ _ _ h => h) (.inr ⟨by kernel_rfl, rfl⟩) hHeld ?_
                  try simp only [Act.put, List.setIfInBounds_toArray, List.set_cons_zero, List.set_cons_succ]
                  refine take_slotC (i := 8) (d := some 76) (v := undef) rfl (by kernel_rfl) (by kernel_rfl) (by kernel_rfl) (by kernel_rfl) (fun _ _ _ h => h) (.inr ⟨by kernel_rfl, rfl⟩) hHeld ?_
                  try simp only [Act.put, List.setIfInBounds_toArray, List.set_cons_zero, List.set_cons_succ]
                  refine take_slotC (i := 9) (d := some 77) (v := undef) rfl (by kernel_rfl) (by kernel_rfl) (by kernel_rfl) (by kernel_rfl) (fun _ _ _ h => h) (.inr ⟨by kernel_rfl, rfl⟩) hHeld ?_
                  try simp only [Act.put, List.setIfInBounds_toArray, List.set_cons_zero, List.set_cons_succ]
                  refine take_slotC (i := 10) (d := some 78) (v := undef) rfl (by kernel_rfl) (by kernel_rfl) (by kernel_rfl) (by kernel_rfl) (fun _ _ _ h => h) (.inr ⟨by kernel_rfl, rfl⟩) hHeld ?_
                  try simp only [Act.put, List.setIfInBounds_toArray, List.set_cons_zero, List.set_cons_succ]
                  refine take_slotC (i := 11) (d := some 79) (v := undef) rfl (by kernel_rfl) (by kernel_rfl) (by kernel_rfl) (by kernel_rfl) (fun _ _ _ h => h) (.inr ⟨by kernel_rfl, rfl⟩) hHeld ?_
                  try simp only [Act.put, List.setIfInBounds_toArray, List.set_cons_zero, List.set_cons_succ]
                  refine take_slotC (i := 12) (d := some 80) (v := undef) rfl (by kernel_rfl) (by kernel_rfl) (by kernel_rfl) (by kernel_rfl) (fun _ _ _ h => h) (.inr ⟨by kernel_rfl, rfl⟩) hHeld ?_
                  try simp only [Act.put, List.setIfInBounds_toArray, List.set_cons_zero, List.set_cons_succ]
                  refine take_slotC (i := 13) (d := some 81) (v := undef) rfl (by kernel_rfl) (by kernel_rfl) (by kernel_rfl) (by kernel_rfl) (fun _ _ _ h => h) (.inr ⟨by kernel_rfl, rfl⟩) hHeld ?_
                  try simp only [Act.put, List.setIfInBounds_toArray, List.set_cons_zero, List.set_cons_succ]
                  refine take_slotC (i := 14) (d := some 82) (v := undef) rfl (by kernel_rfl) (by kernel_rfl) (by kernel_rfl) (by kernel_rfl) (fun _ _ _ h => h) (.inr ⟨by kernel_rfl, rfl⟩) hHeld ?_
                  try simp only [Act.put, List.setIfInBounds_toArray, List.set_cons_zero, List.set_cons_succ]
                  refine take_slotC (i := 15) (d := some 83) (v := undef) rfl (by kernel_rfl) (by kernel_rfl) (by kernel_rfl) (by kernel_rfl) (fun _ _ _ h => h) (.inr ⟨by kernel_rfl, rfl⟩) hHeld ?_
                  try simp only [Act.put, List.setIfInBounds_toArray, List.set_cons_zero, List.set_cons_succ]
                  refine take_slotC (i := 16) (d := some 84) (v := undef) rfl (by kernel_rfl) (by kernel_rfl) (by kernel_rfl) (by kernel_rfl) (fun _ _ _ h => h) (.inr ⟨by kernel_rfl, rfl⟩) hHeld ?_
                  try simp only [Act.put, List.setIfInBounds_toArray, List.set_cons_zero, List.set_cons_succ]
                  refine take_slotC (i := 17) (d := some 85) (v := undef) rfl (by kernel_rfl) (by kernel_rfl) (by kernel_rfl) (by kernel_rfl) (fun _ _ _ h => h) (.inr ⟨by kernel_rfl, rfl⟩) hHeld ?_
                  try simp only [Act.put, List.setIfInBounds_toArray, List.set_cons_zero, List.set_cons_succ]
                  refine take_slotC (i := 18) (d := some 86) (v := undef) rfl (by kernel_rfl) (by kernel_rfl) (by kernel_rfl) (by kernel_rfl) (fun _ _ _ h => h) (.inr ⟨by kernel_rfl, rfl⟩) hHeld ?_
                  try simp only [Act.put, List.setIfInBounds_toArray, List.set_cons_zero, List.set_cons_succ]
                  refine take_slotC (i := 19) (d := some 87) (v := undef) rfl (by kernel_rfl) (by kernel_rfl) (by kernel_rfl) (by kernel_rfl) (fun _ _ _ h => h) (.inr ⟨by kernel_rfl, rfl⟩) hHeld ?_
                  try simp only [Act.put, List.setIfInBounds_toArray, List.set_cons_zero, List.set_cons_succ]
                  refine take_slotC (i := 20) (d := some 88) (v := undef) rfl (by kernel_rfl) (by kernel_rfl) (by kernel_rfl) (by kernel_rfl) (fun _ _ _ h => h) (.inr ⟨by kernel_rfl, rfl⟩) hHeld ?_
                  try simp only [Act.put, List.setIfInBounds_toArray, List.set_cons_zero, List.set_cons_succ]
                  refine take_slotC (i := 21) (d := some 89) (v := undef) rfl (by kernel_rfl) (by kernel_rfl) (by kernel_rfl) (by kernel_rfl) (fun _ _ _ h => h) (.inr ⟨by kernel_rfl, rfl⟩) hHeld ?_
                  try simp only [Act.put, List.setIfInBounds_toArray, List.set_cons_zero, List.set_cons_succ]
                  refine take_slotC (i := 22) (d := some 90) (v := undef) rfl (by kernel_rfl) (by kernel_rfl) (by kernel_rfl) (by kernel_rfl) (fun _ _ _ h => h) (.inr ⟨by kernel_rfl, rfl⟩) hHeld ?_
                  try simp only [Act.put, List.setIfInBounds_toArray, List.set_cons_zero, List.set_cons_succ]
                  refine take_slotC (i := 23) (d := some 91) (v := undef) rfl (by kernel_rfl) (by kernel_rfl) (by kernel_rfl) (by kernel_rfl) (fun _ _ _ h => h) (.inr ⟨by kernel_rfl, rfl⟩) hHeld ?_
                  try simp only [Act.put, List.setIfInBounds_toArray, List.set_cons_zero, List.set_cons_succ]
                  refine take_slotC (i := 24) (d := some 92) (v := undef) rfl (by kernel_rfl) (by kernel_rfl) (by kernel_rfl) (by kernel_rfl) (fun _ _ _ h => h) (.inr ⟨by kernel_rfl, rfl⟩) hHeld ?_
                  try simp only [Act.put, List.setIfInBounds_toArray, List.set_cons_zero, List.set_cons_succ]
                  refine take_slotC (i := 25) (d := some 93) (v := .bool true) rfl (by kernel_rfl) (by kernel_rfl) (by kernel_rfl) (by kernel_rfl) (fun _ _ _ h => h) (.inl ⟨by kernel_rfl, fun V hV => by obtain ⟨hV1, hV2, hV3, hV4⟩ := hV; go_simp⟩) hHeld ?_
                  try simp only [Act.put, List.setIfInBounds_toArray, List.set_cons_zero, List.set_cons_succ]
                  refine take_slotC (i := 26) (d := some 8) (v := .bool true) rfl (by kernel_rfl) (by kernel_rfl) (by kernel_rfl) (by kernel_rfl) (fun _ _ _ h => h) (.inl ⟨by kernel_rfl, fun V hV => by obtain ⟨hV1, hV2, hV3, hV4⟩ := hV; go_simp⟩) hHeld ?_
                  try simp only [Act.put, List.setIfInBounds_toArray, List.set_cons_zero, List.set_cons_succ]
                  refine wpAnyH_done (by kernel_rfl) ?_ _
                  go_wp2_with fail
                  go_roundw
                  all_goals first
                    | exact ⟨q + 1, true, by omega, by go_num, rfl, fun _ => rfl, hch2⟩
                    | (simp [intOf]; omega)
              · obtain rfl : q = j := by omega
                obtain rfl : bb = true := hbb f6
                obtain ⟨b, off, rfl, hc⟩ := Rw.out (by omega)
                have q1 := hc a (by omega)
                obtain ⟨z, hz⟩ : ∃ z, z = cs.getD a 0 := ⟨_, rfl⟩
                rw [← hz] at q1 F4
                have HZ := Lib.hid hz
                clear hz hc
                have he0 : 0 ≤ e0 ∧ e0 ≤ 3 := by have := F7.out; omega
                have ha1 : 0 ≤ (a : Int) := by omega
                have ha2 : (a : Int) < (q : Int) := by omega
                have ha3 : (a : Int) < (k : Int) := by omega
                have hw1 : IntKind.i64.wrap (d + (a : Int)) = d + (a : Int) := by rw [i64_wrap' _ (by omega) (by omega)]
                have hw2 : IntKind.i64.wrap (d + (a : Int) - e0) = d + (a : Int) - e0 := by rw [i64_wrap' _ (by omega) (by omega)]
                have hw3 : (d + (a : Int) - e0).tmod 2 = 0 := Int.tmod_eq_zero_of_dvd (Int.dvd_of_emod_eq_zero F5.out)
                have hHeld0 := And.intro n0 (And.intro n1 (And.intro n3 (And.intro y0 (And.intro y1 q1))))
                clear n0 n1 n2 n3 y0 y1 q1
                go_wp2_with fail
                refine wp_region_held_drew (S := fun V => V.cell? ⟨p, 0, none⟩ = some (.int .i64 l) ∧ V.cell? ⟨p, 1, none⟩ = some (.int .i64 s) ∧ V.cell? ⟨p, 3, none⟩ = some (.int .i64 e0) ∧ V.cell? ⟨g, 0, none⟩ = some (.int .i64 d) ∧ V.cell? ⟨g, 1, none⟩ = some (.slice (some ⟨b, off, none⟩) q k) ∧ V.cell? ⟨b, off + a, none⟩ = some (.int .i64 z)) (by kernel_rfl) hHeld0 (fun hHeld => ?_)
                refine take_slotC (i := 0) (d := some 94) (v := .bool true) rfl (by kernel_rfl) (by kernel_rfl) (by kernel_rfl) (by kernel_rfl) (fun _ _ _ h => h) (.inl ⟨by kernel_rfl, fun V hV => by obtain ⟨hV1, hV2, hV3, hV4, hV5, hV6⟩ := hV; go_simp⟩) hHeld ?_
                try simp only [Act.put, List.setIfInBounds_toArray, List.set_cons_zero, List.set_cons_succ]
                refine take_slotC (i := 1) (d := some 95) (v := .bool true) rfl (by kernel_rfl) (by kernel_rfl) (by kernel_rfl) (by kernel_rfl) (fun _ _ _ h => h) (.inl ⟨by kernel_rfl, fun V hV => by obtain ⟨hV1, hV2, hV3, hV4, hV5, hV6⟩ := hV; go_simp⟩) hHeld ?_
                try simp only [Act.put, List.setIfInBounds_toArray, List.set_cons_zero, List.set_cons_succ]
                refine take_slotC (i := 2) (d := some 96) (v := .pointer (some ⟨p, 0, none⟩)) rfl (by kernel_rfl) (by kernel_rfl) (by kernel_rfl) (by kernel_rfl) (fun _ _ _ h => h) (.inl ⟨by kernel_rfl, fun V hV => by obtain ⟨hV1, hV2, hV3, hV4, hV5, hV6⟩ := hV; go_simp⟩) hHeld ?_
                try simp only [Act.put, List.setIfInBounds_toArray, List.set_cons_zero, List.set_cons_succ]
                refine take_slotC (i := 3) (d := some 97) (v := .int .i64 l) rfl (by kernel_rfl) (by kernel_rfl) (by kernel_rfl) (by kernel_rfl) (fun _ _ _ h => h) (.inl ⟨by kernel_rfl, fun V hV => by obtain ⟨hV1, hV2, hV3, hV4, hV5, hV6⟩ := hV; go_simp⟩) hHeld ?_
                try simp only [Act.put, List.setIfInBounds_toArray, List.set_cons_zero, List.set_cons_succ]
                refine take_slotC (i := 4) (d := some 98) (v := .pointer (some ⟨p, 1, none⟩)) rfl (by kernel_rfl) (by kernel_rfl) (by kernel_rfl) (by kernel_rfl) (fun _ _ _ h => h) (.inl ⟨by kernel_rfl, fun V hV => by obtain ⟨hV1, hV2, hV3, hV4, hV5, hV6⟩ := hV; go_simp⟩) hHeld ?_
                try simp only [Act.put, List.setIfInBounds_toArray, List.set_cons_zero, List.set_cons_succ]
                refine take_slotC (i := 5) (d := some 99) (v := .int .i64 s) rfl (by kernel_rfl) (by kernel_rfl) (by kernel_rfl) (by kernel_rfl) (fun _ _ _ h => h) (.inl ⟨by kernel_rfl, fun V hV => by obtain ⟨hV1, hV2, hV3, hV4, hV5, hV6⟩ := hV; go_simp⟩) hHeld ?_
                try simp only [Act.put, List.setIfInBounds_toArray, List.set_cons_zero, List.set_cons_succ]
                refine take_slotC (i := 7) (d := some 101) (v := .pointer (some ⟨g, 1, none⟩)) rfl (by kernel_rfl) (by kernel_rfl) (by kernel_rfl) (by kernel_rfl) (fun _ _ _ h => h) (.inl ⟨by kernel_rfl, fun V hV => by obtain ⟨hV1, hV2, hV3, hV4, hV5, hV6⟩ := hV; go_simp⟩) hHeld ?_
                try simp only [Act.put, List.setIfInBounds_toArray, List.set_cons_zero, List.set_cons_succ]
                refine take_slotC (i := 8) (d := some 102) (v := .slice (some ⟨b, off, none⟩) q k) rfl (by kernel_rfl) (by kernel_rfl) (by kernel_rfl) (by kernel_rfl) (fun _ _ _ h => h) (.inl ⟨by kernel_rfl, fun V hV => by obtain ⟨hV1, hV2, hV3, hV4, hV5, hV6⟩ := hV; go_simp⟩) hHeld ?_
                try simp only [Act.put, List.setIfInBounds_toArray, List.set_cons_zero, List.set_cons_succ]
                refine take_slotC (i := 9) (d := some 103) (v := .int .i64 (a : Int)) rfl (by kernel_rfl) (by kernel_rfl) (by kernel_rfl) (by kernel_rfl) (fun _ _ _ h => h) (.inl ⟨by kernel_rfl, fun V hV => by obtain ⟨hV1, hV2, hV3, hV4, hV5, hV6⟩ := hV; go_simp⟩) hHeld ?_
                try simp only [Act.put, List.setIfInBounds_toArray, List.set_cons_zero, List.set_cons_succ]
                refine take_slotC (i := 10) (d := some 104) (v := .pointer (some ⟨b, off + a, none⟩)) rfl (by kernel_rfl) (by kernel_rfl) (by kernel_rfl) (by kernel_rfl) (fun _ _ _ h => h) (.inl ⟨by kernel_rfl, fun V hV => by obtain ⟨hV1, hV2, hV3, hV4, hV5, hV6⟩ := hV; go_simp⟩) hHeld ?_
                try simp only [Act.put, List.setIfInBounds_toArray, List.set_cons_zero, List.set_cons_succ]
                refine take_slotC (i := 11) (d := some 105) (v := .int .i64 z) rfl (by kernel_rfl) (by kernel_rfl) (by kernel_rfl) (by kernel_rfl) (fun _ _ _ h => h) (.inl ⟨by kernel_rfl, fun V hV => by obtain ⟨hV1, hV2, hV3, hV4, hV5, hV6⟩ := hV; go_simp⟩) hHeld ?_
                try simp only [Act.put, List.setIfInBounds_toArray, List.set_cons_zero, List.set_cons_succ]
                refine wpAnyH_ready (rs := [6]) (by kernel_rfl) (by simp) (AllReadyH.cons (i := 6) rfl (fun K' hK' => ?_) AllReadyH.nil)
                go_simp
                refine (HB.out l s _).mono ?_
                rw [F4.out]
                rintro e w8 ⟨rfl, c8'⟩
                have c8 := Lib.hid ((Chg.drewN wr 1 0 0).trans c8')
                have N8 := (Nw.out.still c8.out).c
                have B8 := Bw.out.still c8.out
                obtain ⟨b8, off8, hb8, hc8⟩ := (Rw.out.still c8.out) (by omega)
                obtain ⟨rfl, rfl⟩ : b8 = b ∧ off8 = off := by injection hb8 with h1; injection h1 with h1 h2 h3; exact ⟨h1.symm, h2.symm⟩
                have q8 := hc8 a (by omega)
                rw [← HZ.out] at q8
                have hHeld8 := And.intro N8.1 (And.intro N8.2.1 (And.intro N8.2.2.2 (And.intro B8.c0 (And.intro B8.c1 q8))))
                clear N8 B8 hc8 q8
                refine hK'.out _ _ hHeld8 (fun hHeld => ?_)
                clear hK'
                try simp only [Act.put, List.setIfInBounds_toArray, List.set_cons_zero, List.set_cons_succ]
                refine take_slotC (i := 12) (d := some 106) (v := .bool true) rfl (by kernel_rfl) (by kernel_rfl) (by kernel_rfl) (by kernel_rfl) (fun _ _ _ h => h) (.inl ⟨by kernel_rfl, fun V hV => by obtain ⟨hV1, hV2, hV3, hV4, hV5, hV6⟩ := hV; go_simp⟩) hHeld ?_
                try simp only [Act.put, List.setIfInBounds_toArray, List.set_cons_zero, List.set_cons_succ]
                refine take_slotC (i := 13) (d := some 107) (v := .bool true) rfl (by kernel_rfl) (by kernel_rfl) (by kernel_rfl) (by kernel_rfl) (fun _ _ _ h => h) (.inl ⟨by kernel_rfl, fun V hV => by obtain ⟨hV1, hV2, hV3, hV4, hV5, hV6⟩ := hV; go_simp⟩) hHeld ?_
                try simp only [Act.put, List.setIfInBounds_toArray, List.set_cons_zero, List.set_cons_succ]
                refine take_slotC (i := 14) (d := some 108) (v := .bool true) rfl (by kernel_rfl) (by kernel_rfl) (by kernel_rfl) (by kernel_rfl) (fun _ _ _ h => h) (.inl ⟨by kernel_rfl, fun V hV => by obtain ⟨hV1, hV2, hV3, hV4, hV5, hV6⟩ := hV; go_simp⟩) hHeld ?_
                try simp only [Act.put, List.setIfInBounds_toArray, List.set_cons_zero, List.set_cons_succ]
                refine take_slotC (i := 15) (d := some 109) (v := .pointer (some ⟨g, 0, none⟩)) rfl (by kernel_rfl) (by kernel_rfl) (by kernel_rfl) (by kernel_rfl) (fun _ _ _ h => h) (.inl ⟨by kernel_rfl, fun V hV => by obtain ⟨hV1, hV2, hV3, hV4, hV5, hV6⟩ := hV; go_simp⟩) hHeld ?_
                try simp only [Act.put, List.setIfInBounds_toArray, List.set_cons_zero, List.set_cons_succ]
                refine take_slotC (i := 16) (d := some 110) (v := .int .i64 d) rfl (by kernel_rfl) (by kernel_rfl) (by kernel_rfl) (by kernel_rfl) (fun _ _ _ h => h) (.inl ⟨by kernel_rfl, fun V hV => by obtain ⟨hV1, hV2, hV3, hV4, hV5, hV6⟩ := hV; go_simp⟩) hHeld ?_
                try simp only [Act.put, List.setIfInBounds_toArray, List.set_cons_zero, List.set_cons_succ]
                refine take_slotC (i := 17) (d := some 111) (v := .int .i64 (a : Int)) rfl (by kernel_rfl) (by kernel_rfl) (by kernel_rfl) (by kernel_rfl) (fun _ _ _ h => h) (.inl ⟨by kernel_rfl, fun V hV => by obtain ⟨hV1, hV2, hV3, hV4, hV5, hV6⟩ := hV; go_simp⟩) hHeld ?_
                try simp only [Act.put, List.setIfInBounds_toArray, List.set_cons_zero, List.set_cons_succ]
                refine take_slotC (i := 18) (d := some 112) (v := .int .i64 (d + (a : Int))) rfl (by kernel_rfl) (by kernel_rfl) (by kernel_rfl) (by kernel_rfl) (fun _ _ _ h => h) (.inl ⟨by kernel_rfl, fun V hV => by obtain ⟨hV1, hV2, hV3, hV4, hV5, hV6⟩ := hV; go_simp⟩) hHeld ?_
                try simp only [Act.put, List.setIfInBounds_toArray, List.set_cons_zero, List.set_cons_succ]
                refine take_slotC (i := 19) (d := some 113) (v := .pointer (some ⟨p, 3, none⟩)) rfl (by kernel_rfl) (by kernel_rfl) (by kernel_rfl) (by kernel_rfl) (fun _ _ _ h => h) (.inl ⟨by kernel_rfl, fun V hV => by obtain ⟨hV1, hV2, hV3, hV4, hV5, hV6⟩ := hV; go_simp⟩) hHeld ?_
                try simp only [Act.put, List.setIfInBounds_toArray, List.set_cons_zero, List.set_cons_succ]
                refine take_slotC (i := 20) (d := some 114) (v := .int .i64 e0) rfl (by kernel_rfl) (by kernel_rfl) (by kernel_rfl) (by kernel_rfl) (fun _ _ _ h => h) (.inl ⟨by kernel_rfl, fun V hV => by obtain ⟨hV1, hV2, hV3, hV4, hV5, hV6⟩ := hV; go_simp⟩) hHeld ?_
                try simp only [Act.put, List.setIfInBounds_toArray, List.set_cons_zero, List.set_cons_succ]
                refine take_slotC (i := 21) (d := some 115) (v := .int .i64 (d + (a : Int) - e0)) rfl (by kernel_rfl) (by kernel_rfl) (by kernel_rfl) (by kernel_rfl) (fun _ _ _ h => h) (.inl ⟨by kernel_rfl, fun V hV => by obtain ⟨hV1, hV2, hV3, hV4, hV5, hV6⟩ := hV; go_simp⟩) hHeld ?_
                try simp only [Act.put, List.setIfInBounds_toArray, List.set_cons_zero, List.set_cons_succ]
                refine take_slotC (i := 22) (d := some 116) (v := .int .i64 0) rfl (by kernel_rfl) (by kernel_rfl) (by kernel_rfl) (by kernel_rfl) (fun _ _ _ h => h) (.inl ⟨by kernel_rfl, fun V hV => by obtain ⟨hV1, hV2, hV3, hV4, hV5, hV6⟩ := hV; go_simp⟩) hHeld ?_
                try simp only [Act.put, List.setIfInBounds_toArray, List.set_cons_zero, List.set_cons_succ]
                refine take_slotC (i := 23) (d := some 117) (v := .bool true) rfl (by kernel_rfl) (by kernel_rfl) (by kernel_rfl) (by kernel_rfl) (fun _ _ _ h => h) (.inl ⟨by kernel_rfl, fun V hV => by obtain ⟨hV1, hV2, hV3, hV4, hV5, hV6⟩ := hV; go_simp⟩) hHeld ?_
                try simp only [Act.put, List.setIfInBounds_toArray, List.set_cons_zero, List.set_cons_succ]
                refine take_slotC (i := 24) (d := some 118) (v := .bool true) rfl (by kernel_rfl) (by kernel_rfl) (by kernel_rfl) (by kernel_rfl) (fun _ _ _ h => h) (.inl ⟨by kernel_rfl, fun V hV => by obtain ⟨hV1, hV2, hV3, hV4, hV5, hV6⟩ := hV; go_simp⟩) hHeld ?_
                try simp only [Act.put, List.setIfInBounds_toArray, List.set_cons_zero, List.set_cons_succ]
                refine take_slotC (i := 25) (d := some 2) (v := .bool true) rfl (by kernel_rfl) (by kernel_rfl) (by kernel_rfl) (by kernel_rfl) (fun _ _ _ h => h) (.inl ⟨by kernel_rfl, fun V hV => by obtain ⟨hV1, hV2, hV3, hV4, hV5, hV6⟩ := hV; go_simp⟩) hHeld ?_
                try simp only [Act.put, List.setIfInBounds_toArray, List.set_cons_zero, List.set_cons_succ]
                refine wpAnyH_done (by kernel_rfl) ?_ _
                go_wp2_with fail
                go_ret
                exact ⟨rfl, K7.out.trans ((Chg.to_below (hch.out.trans c8.out)).mono K7.out.size)⟩
end Go.Proofs.Ytnkbcmkngghnoaa.Lib1
