/- Chapter 7: the law FnDealerTurns, for whatever functions of the program keep the contracts. (Written by wip/gen7z.py.) -/
import Derived.Test.YtnkbcmkngghnoaaAucV7
import Derived.Test.YtnkbcmkngghnoaaAucU7
import Derived.Test.YtnkbcmkngghnoaaAucD7
namespace Go.Proofs.Ytnkbcmkngghnoaa.Lib1
open Go.RowKit
set_option maxRecDepth 100000

/-- A function that finds an auction's contract. -/
theorem passed : ((inB 0 0 3 && validTo [0, 0, 0, 0] 4) && overTo [0, 0, 0, 0] 4) = true := by kernel_rfl
theorem turn_range {d k : Int} : inB ((d + k) % 4) 0 3 = true := inB_true (by omega)
theorem con_turn {d k : Int} {cs : List Int} {n : Nat} : (conL cs n == 0 || ((conD d cs n + k) % 4 == conD ((d + k) % 4) cs n)) = true := by
  unfold conL conD
  by_cases h : bidTo cs n < 0
  · rw [if_pos h]; rfl
  · rw [if_neg h, if_neg h, if_neg h]
    generalize (firTo cs (atTo cs n).toNat (strV (bidTo cs n)) ((atTo cs n).toNat + 1) : Int) = q
    have : ((d + q) % 4 + k) % 4 = ((d + k) % 4 + q) % 4 := by omega
    rw [this]; simp
theorem conB_ok {d : Int} {cs : List Int} {n : Nat} (h1 : inB d 0 3 = true) (h2 : validTo cs n = true) (h3 : overTo cs n = true) : conB d cs n = 0 := by unfold conB; rw [h1, h2, h3]; rfl
theorem conZ_ok {d : Int} {cs : List Int} {n : Nat} (h1 : inB d 0 3 = true) (h2 : validTo cs n = true) (h3 : overTo cs n = true) : conZ d cs n = conA (conL cs n) (conS cs n) (conX cs n) (conD d cs n) := by unfold conZ; rw [if_pos (conB_ok h1 h2 h3)]
theorem conD_range {d : Int} {cs : List Int} {n : Nat} : 0 ≤ conD d cs n ∧ conD d cs n ≤ 3 := by unfold conD; split <;> omega
/-- A contract's box. -/
def CBox (w : World) (g : Nat) (l s x e : Int) : Prop := w.heap[g]? = some (.cells (conA l s x e) 36 (0, 0))
theorem CBox.still {w w' : World} {g : Nat} {l s x e : Int} (h : CBox w g l s x e) (k : Chg w w' 0 0) : CBox w' g l s x e := (k.block g (lt_of_block h) (.inr (Nat.zero_le _))).trans h
theorem CBox.c {w : World} {g : Nat} {l s x e : Int} (h : CBox w g l s x e) : w.cell? ⟨g, 0, none⟩ = some (.int .i64 l) ∧ w.cell? ⟨g, 1, none⟩ = some (.int .i64 s) ∧ w.cell? ⟨g, 2, none⟩ = some (.int .i64 x) ∧ w.cell? ⟨g, 3, none⟩ = some (.int .i64 e) := by
  refine ⟨?_, ?_, ?_, ?_⟩ <;> (rw [cell_of_row w g _ _ _ _ h]; rfl)

set_option maxHeartbeats 8000000 in
theorem law_FnDealerTurns (hE : EndF 21) (hC : ConF 23) (A : Option Addr) (n c : Nat) (w : World) (h : Bytes w A n) :
    Calls Try.prog 5 #[.slice A n c] w fun e w' => e = .returned (.bool true) ∧ Below w.heap.size w w' := by
  by_cases hn : 4096 < n
  · have hb := Lib.hid (decide_eq_true hn)
    clear hE hC
    go_enter Try.func5, Try.ntmps5
    go_wp2_with fail
    refine (big _ _ _ _).mono ?_
    rintro e w' ⟨rfl, rfl⟩
    rw [hb.out]
    go_wp2_with fail
    go_ret
    exact ⟨rfl, Below.refl _ _⟩
  · have hb := Lib.hid (decide_eq_false hn)
    have HE := Lib.hid hE
    have HC := Lib.hid hC
    clear hE hC
    go_enter Try.func5, Try.ntmps5
    go_wp2_with fail
    refine (big _ _ _ _).mono ?_
    rintro e w' ⟨rfl, rfl⟩
    rw [hb.out]
    go_wp2_with fail
    refine (DrawContractOf A n c _ h (by omega)).mono ?_
    rintro e w1 ⟨d, D, m, k, cs, rfl, hm, hcap, hnil, hrd, b1⟩
    have hby := Lib.hid h
    clear h hb
    have B0 : Hid ((w1.alloc (.cells #[.int .i64 0, .slice none 0 0] 26)).heap[w1.heap.size]? = some (.cells aucZero 26 (0, 0))) := heap_alloc_new w1 _
    have ca := Chg.of_alloc w1 (.cells #[.int .i64 0, .slice none 0 0] 26) 0 0
    have B1 : Hid (ABox ((w1.alloc (.cells #[.int .i64 0, .slice none 0 0] 26)).setRow w1.heap.size #[.int .i64 d, .slice D m k]) w1.heap.size d D m k) := setRow_heap _ _ _ #[.int .i64 d, .slice D m k] _ _ B0.out
    have C1 := Lib.hid (ca.rowC (show w1.heap.size ≤ w1.heap.size by omega) #[.int .i64 d, .slice D m k])
    have R1 := Lib.hid ((Rp.of_rd hrd).still C1.out)
    have K1 := Lib.hid (b1.trans ((Chg.to_below C1.out).mono b1.size))
    have Z1 := Lib.hid b1.size
    have sz1 := Lib.hid (show w1.heap.size < ((w1.alloc (.cells #[.int .i64 0, .slice none 0 0] 26)).setRow w1.heap.size #[.int .i64 d, .slice D m k]).heap.size by rw [setRow_size]; simp)
    clear ca hrd b1
    go_wp2_with (first | (refine wpList_store_row rfl 26 _ _ rfl w1.heap.size #[.int .i64 d, .slice D m k] rfl rfl 26 aucZero B0.out (auc_info d D m k) rfl (auc_cells d D m k) ?_) | (refine wpList_load_row rfl 26 _ rfl w1.heap.size rfl 26 #[.int .i64 d, .slice D m k] (0, 0) _ B1.out Try.underlying26 rfl (auc_info d D m k) ?_))
    generalize (w1.alloc (.cells #[.int .i64 0, .slice none 0 0] 26)).setRow w1.heap.size #[.int .i64 d, .slice D m k] = W2 at B1 C1 R1 K1 sz1 ⊢
    obtain ⟨g, hg⟩ : ∃ g, g = w1.heap.size := ⟨_, rfl⟩
    rw [← hg] at B1 Z1 sz1 ⊢
    clear hg C1 B0
    refine (spec_AuctionEnded d D m k cs _ R1.out (by omega) hcap).mono ?_
    cases hV : (inB d 0 3 && validTo cs m) && overTo cs m
    · rintro e w3 ⟨rfl, c3⟩
      have B3 := Lib.hid (B1.out.still c3)
      have R3 := Lib.hid (R1.out.still c3)
      have K3 := Lib.hid (K1.out.trans ((Chg.to_below c3).mono K1.out.size))
      have HVF := Lib.hid hV
      clear c3 B1 R1 K1 hV sz1
      go_wp2_with (refine wpList_load_row rfl 26 _ rfl g rfl 26 #[.int .i64 d, .slice D m k] (0, 0) _ B3.out Try.underlying26 rfl (auc_info d D m k) ?_)
      refine (HE.out d D m k cs _ R3.out (by omega) hcap).mono ?_
      have hV : ((inB d 0 3 && validTo cs m) && overTo cs m) = false := HVF.out
      rw [hV]
      rintro e w4 ⟨rfl, c4⟩
      have K4 := Lib.hid (K3.out.trans ((Chg.to_below c4).mono K3.out.size))
      clear c4 hV
      go_wp2_with fail
      have P5 : Rp (w4.alloc (.cells #[.int .i64 0, .int .i64 0, .int .i64 0, .int .i64 0] 2)) (some ⟨w4.heap.size, 0, none⟩) 4 [0, 0, 0, 0] := fun _ => by
        refine ⟨w4.heap.size, 0, rfl, fun j hj => ?_⟩
        rw [World.cell?_alloc_mark]
        have hj4 : j = 0 ∨ j = 1 ∨ j = 2 ∨ j = 3 := by omega
        rcases hj4 with rfl | rfl | rfl | rfl <;> rfl
      refine (HE.out 0 _ 4 4 [0, 0, 0, 0] _ P5 (by omega) (by omega)).mono ?_
      rw [passed]
      rintro e w6 ⟨rfl, c6⟩
      have K6 := Lib.hid (K4.out.trans ((Chg.to_below ((Chg.of_alloc w4 (.cells #[.int .i64 0, .int .i64 0, .int .i64 0, .int .i64 0] 2) 0 0).trans c6)).mono K4.out.size))
      clear c6 P5
      go_wp2_with fail
      go_ret
      exact ⟨rfl, K6.out⟩
    · rintro e w3 ⟨rfl, c3⟩
      have hv1 : inB d 0 3 = true := by cases h1 : inB d 0 3; · rw [h1] at hV; exact absurd hV (by simp)
                                        · rfl
      have hv2 : validTo cs m = true := by rw [hv1] at hV; cases h2 : validTo cs m; · rw [h2] at hV; exact absurd hV (by simp)
                                           · rfl
      have hv3 : overTo cs m = true := by rw [hv1, hv2] at hV; exact hV
      have B3 := Lib.hid (B1.out.still c3)
      have R3 := Lib.hid (R1.out.still c3)
      have K3 := Lib.hid (K1.out.trans ((Chg.to_below c3).mono K1.out.size))
      have sz3 := Lib.hid (show g < w3.heap.size by have := c3.size; have := sz1.out; omega)
      have Y3 := Lib.hid (show Bytes w3 A n from hby.out.chg (Chg.of_below K3.out w.heap.size 0))
      clear c3 B1 R1 K1 hV sz1
      go_wp2_with fail
      refine (w5Pick A n c 1 4 _ Y3.out (by omega) (by omega)).mono ?_
      rintro e w4 ⟨r, rfl, r0, r4, c4⟩
      have B4 := Lib.hid (B3.out.still c4)
      have R4 := Lib.hid (R3.out.still c4)
      have K4 := Lib.hid (K3.out.trans ((Chg.to_below c4).mono K3.out.size))
      have sz4 := Lib.hid (show g < w4.heap.size by have := c4.size; have := sz3.out; omega)
      clear c4 B3 R3 K3 Y3 sz3 hby
      go_wp2_with (refine wpList_load_row rfl 26 _ rfl g rfl 26 #[.int .i64 d, .slice D m k] (0, 0) _ B4.out Try.underlying26 rfl (auc_info d D m k) ?_)
      refine (HC.out d D m k cs _ R4.out (by omega) hcap).mono ?_
      rw [conZ_ok hv1 hv2 hv3, conB_ok hv1 hv2 hv3]
      have hct := con_turn (d := d) (k := r) (cs := cs) (n := m)
      have hdr := conD_range (d := d) (cs := cs) (n := m)
      have hdr2 := conD_range (d := (d + r) % 4) (cs := cs) (n := m)
      have hd2 := turn_range (d := d) (k := r)
      have hZ2 := conZ_ok hd2 hv2 hv3
      have hB2 := conB_ok hd2 hv2 hv3
      rintro e w5 ⟨he, c5⟩
      generalize conD d cs m = E at he hct hdr
      generalize conD ((d + r) % 4) cs m = E2 at hct hdr2 hZ2
      generalize conL cs m = L at he hct hZ2
      generalize conS cs m = S at he hZ2
      generalize conX cs m = X at he hZ2
      unfold conA at he
      subst he
      have HCT := Lib.hid hct
      have HZ2 := Lib.hid hZ2
      have HB2 := Lib.hid hB2
      clear hct hZ2 hB2 
      have B5 := Lib.hid (B4.out.still c5)
      have R5 := Lib.hid (R4.out.still c5)
      have K5 := Lib.hid (K4.out.trans ((Chg.to_below c5).mono K4.out.size))
      clear c5 B4 R4 K4
      have B0 : Hid ((w5.alloc (.cells #[.int .i64 0, .int .i64 0, .int .i64 0, .int .i64 0] 36)).heap[w5.heap.size]? = some (.cells (conA 0 0 0 0) 36 (0, 0))) := heap_alloc_new w5 _
      have ca := Chg.of_alloc w5 (.cells #[.int .i64 0, .int .i64 0, .int .i64 0, .int .i64 0] 36) 0 0
      have N0 : Hid (CBox ((w5.alloc (.cells #[.int .i64 0, .int .i64 0, .int .i64 0, .int .i64 0] 36)).setRow w5.heap.size #[.int .i64 L, .int .i64 S, .int .i64 X, .int .i64 E]) w5.heap.size L S X E) := setRow_heap _ _ _ #[.int .i64 L, .int .i64 S, .int .i64 X, .int .i64 E] _ _ B0.out
      have C0 := Lib.hid (ca.rowC (show w5.heap.size ≤ w5.heap.size by omega) #[.int .i64 L, .int .i64 S, .int .i64 X, .int .i64 E])
      have K0 := Lib.hid (K5.out.trans ((Chg.to_below C0.out).mono K5.out.size))
      have G0 := Lib.hid (B5.out.still C0.out)
      have Q0 := Lib.hid (R5.out.still C0.out)
      clear ca B5 R5 K5
      have hdi : 0 ≤ d ∧ d ≤ 3 := inB_seat hv1
      have g0 := G0.out.c0
      have g1 := G0.out.c1
      go_wp2_with (refine wpList_store_row rfl 36 _ _ rfl w5.heap.size #[.int .i64 L, .int .i64 S, .int .i64 X, .int .i64 E] rfl rfl 36 (conA 0 0 0 0) B0.out (con_info L S X E) rfl (con_cells L S X E) ?_)
      generalize (w5.alloc (.cells #[.int .i64 0, .int .i64 0, .int .i64 0, .int .i64 0] 36)).setRow w5.heap.size #[.int .i64 L, .int .i64 S, .int .i64 X, .int .i64 E] = W6 at N0 K0 G0 Q0 ⊢
      obtain ⟨p, hp⟩ : ∃ p, p = w5.heap.size := ⟨_, rfl⟩
      rw [← hp] at N0 ⊢
      have N1 := N0
      have K1 := K0
      clear hp C0 B0 g0 g1 N0 K0 G0
      refine (HC.out ((d + r) % 4) D m k cs _ Q0.out (by omega) hcap).mono ?_
      rw [HZ2.out, HB2.out]
      unfold conA
      rintro e w7 ⟨rfl, c7⟩
      have N7 := Lib.hid (N1.out.still c7)
      have K7 := Lib.hid (K1.out.trans ((Chg.to_below c7).mono K1.out.size))
      clear c7 N1 K1 Q0 HZ2 HB2
      have B0 : Hid ((w7.alloc (.cells #[.int .i64 0, .int .i64 0, .int .i64 0, .int .i64 0] 36)).heap[w7.heap.size]? = some (.cells (conA 0 0 0 0) 36 (0, 0))) := heap_alloc_new w7 _
      have ca := Chg.of_alloc w7 (.cells #[.int .i64 0, .int .i64 0, .int .i64 0, .int .i64 0] 36) 0 0
      have M0 : Hid (CBox ((w7.alloc (.cells #[.int .i64 0, .int .i64 0, .int .i64 0, .int .i64 0] 36)).setRow w7.heap.size #[.int .i64 L, .int .i64 S, .int .i64 X, .int .i64 E2]) w7.heap.size L S X E2) := setRow_heap _ _ _ #[.int .i64 L, .int .i64 S, .int .i64 X, .int .i64 E2] _ _ B0.out
      have C0 := Lib.hid (ca.rowC (show w7.heap.size ≤ w7.heap.size by omega) #[.int .i64 L, .int .i64 S, .int .i64 X, .int .i64 E2])
      have K8 := Lib.hid (K7.out.trans ((Chg.to_below C0.out).mono K7.out.size))
      have N8 := Lib.hid (N7.out.still C0.out)
      obtain ⟨V, hV⟩ : ∃ V, V = (w7.alloc (.cells #[.int .i64 0, .int .i64 0, .int .i64 0, .int .i64 0] 36)).setRow w7.heap.size #[.int .i64 L, .int .i64 S, .int .i64 X, .int .i64 E2] := ⟨_, rfl⟩
      rw [← hV] at M0 K8 N8
      have HV := Lib.hid hV
      obtain ⟨q, hq⟩ : ∃ q, q = w7.heap.size := ⟨_, rfl⟩
      rw [← hq] at M0 B0
      have HQ := Lib.hid hq
      have HL := Lib.hid (con_cells L S X E2)
      have HI := Lib.hid (con_info L S X E2)
      clear C0 hV hq
      have hq1 := N8.out.c
      have hq2 := M0.out.c
      obtain ⟨n0, n1, n2, n3⟩ := hq1
      obtain ⟨m0, m1, m2, m3⟩ := hq2
      have hrr : 0 ≤ E + r := by omega
      clear ca N7 K7 N8 M0
      go_wp2_with (rw [← HQ.out]; refine wpList_store_row rfl 36 _ _ rfl q #[.int .i64 L, .int .i64 S, .int .i64 X, .int .i64 E2] rfl rfl 36 (conA 0 0 0 0) B0.out HI.out rfl HL.out ?_; rw [← HQ.out] at HV; rw [← HV.out])
      all_goals go_ret
      all_goals first
        | exact ⟨rfl, K8.out⟩
        | exact ⟨by show Ending.returned (.bool (L == 0 || ((E + r) % 4 == E2))) = _; rw [HCT.out], K8.out⟩
end Go.Proofs.Ytnkbcmkngghnoaa.Lib1
