/- Chapter 7: the program's ReadAuction. (Written by wip/gen7r.py.) -/
import Derived.Test.YtnkbcmkngghnoaaDoorImT7
import Derived.Test.YtnkbcmkngghnoaaDoorFld7
import Derived.Test.YtnkbcmkngghnoaaDoorRead6
import Derived.Test.YtnkbcmkngghnoaaDoorEnv7
import Derived.Test.YtnkbcmkngghnoaaDoorAucN7
import Derived.Test.YtnkbcmkngghnoaaDoorShelfC
namespace Go.Proofs.YtnkbcmkngghnoaaDoor.Lib1
open Go.RowKit
set_option maxRecDepth 100000

theorem CallMap.of_block {w w' : World} {g k : Nat} (h : CallMap w g k) (e : w'.heap[g]? = w.heap[g]?) : CallMap w' g k := by
  obtain ⟨es, clock, hb, r⟩ := h
  exact ⟨es, clock, e.trans hb, r⟩
theorem CallMap.lt {w : World} {g k : Nat} (h : CallMap w g k) : g < w.heap.size := by
  obtain ⟨es, clock, hb, r⟩ := h
  exact lt_of_block hb
set_option maxHeartbeats 8000000 in
/-- The program's ReadAuction. -/
theorem impl_ReadAuction : ReadAucF EnvR 10 := fun s w hs hE => by
  have ca := Chg.of_alloc w (.cells #[.int .i64 0, .slice none 0 0] 26) 0 0
  have E0 := Lib.hid (hE.still ca)
  have Z0 : Hid ((w.alloc (.cells #[.int .i64 0, .slice none 0 0] 26)).heap[w.heap.size]? = some (.cells aucZero 26 (0, 0))) := heap_alloc_new w _
  have K0 := Lib.hid ca.to_below
  have z0 : w.heap.size < (w.alloc (.cells #[.int .i64 0, .slice none 0 0] 26)).heap.size := by simp
  have HRW := Lib.hid (fun (i : Nat) (h1 : i < (flds s).length) (h2 : (rcV ((flds s).getD i ByteArray.empty)).2 = false) => rdA_word (s := s) h1 h2)
  have HRA := Lib.hid (fun (cs : List Int) (h1 : RdTo (flds s) cs) (h2 : cs.length = (flds s).length) => rdA_all (s := s) h1 h2)
  have HFL := flds_len s
  clear ca hE
  go_enter Tryd.func10, Tryd.ntmps10
  go_wp2_with fail
  generalize w.alloc (.cells #[.int .i64 0, .slice none 0 0] 26) = W0 at E0 Z0 K0 z0 ⊢
  obtain ⟨m, hm⟩ := E0.out.1
  refine (Tryd.strings_Cut s ⟨#[58]⟩ m W0 (by omega) hm).mono ?_
  rintro e w1 ⟨rfl, hq⟩
  have c1 : Chg W0 w1 0 0 := by obtain ⟨q, hq⟩ := hq; rw [hq]; exact Chg.drewN _ _ _ _
  have E1 := Lib.hid (E0.out.still c1)
  have Z1 := Lib.hid ((c1.block _ z0 (.inr (Nat.zero_le _))).trans Z0.out)
  have K1 := Lib.hid (K0.out.trans (c1.to_below.mono (by omega)))
  have z1 : w.heap.size < w1.heap.size := by have := c1.size; omega
  clear hq hm c1 E0 Z0 K0 z0
  obtain ⟨P1, hP1⟩ : ∃ P1, P1 = (⟨(Go.Lib.cut s.data.toList (ByteArray.mk #[58]).data.toList).1.toArray⟩ : ByteArray) := ⟨_, rfl⟩
  obtain ⟨P2, hP2⟩ : ∃ P2, P2 = (⟨(Go.Lib.cut s.data.toList (ByteArray.mk #[58]).data.toList).2.1.toArray⟩ : ByteArray) := ⟨_, rfl⟩
  have HI := Lib.hid (show Go.Lib.index (ByteArray.mk #[78, 69, 83, 87]).data.toList P1.data.toList = seatI s by rw [hP1]; rfl)
  have HF := Lib.hid (show (Go.Lib.fieldsD P2.data.toList).map (fun x => (⟨x.toArray⟩ : ByteArray)) = flds s by rw [hP2]; rfl)
  have hP2s : P2.size ≤ s.size := by
    have := (cut_len s.data.toList (ByteArray.mk #[58]).data.toList).2
    have h3 : s.data.toList.length = s.size := by rw [Array.length_toList]; rfl
    rw [hP2]
    show (List.toArray _).size ≤ _
    rw [List.size_toArray]
    omega
  rw [← hP1, ← hP2]
  clear hP1 hP2
  generalize (Go.Lib.cut s.data.toList (ByteArray.mk #[58]).data.toList).2.2 = bq
  go_wp2_with fail
  obtain ⟨m, hm⟩ := E1.out.1
  refine (Tryd.strings_Index ⟨#[78, 69, 83, 87]⟩ P1 m w1 (by decide) hm).mono ?_
  rw [HI.out]
  rintro e w' ⟨rfl, hw⟩
  subst hw
  clear hm HI
  generalize hd : seatI s = d at HRA
  have HD := Lib.hid hd
  clear hd
  have b26 := bld26 d
  have x2 : Hid (ABox ((w'.alloc (.cells #[.int .i64 0, .slice none 0 0] 26)).setRow w'.heap.size #[.int .i64 d, .slice none 0 0]) w'.heap.size d none 0 0) := setRow_heap _ _ _ #[.int .i64 d, .slice none 0 0] _ _ (heap_alloc_new w' _)
  have c2 := (Chg.of_alloc w' (.cells #[.int .i64 0, .slice none 0 0] 26) 0 0).rowC (Nat.le_refl _) #[.int .i64 d, .slice none 0 0]
  have E2 := Lib.hid (E1.out.still c2)
  have Z2 := Lib.hid ((c2.block _ z1 (.inr (Nat.zero_le _))).trans Z1.out)
  have K2 := Lib.hid (K1.out.trans (c2.to_below.mono (by omega)))
  have z2 : w'.heap.size < ((w'.alloc (.cells #[.int .i64 0, .slice none 0 0] 26)).setRow w'.heap.size #[.int .i64 d, .slice none 0 0]).heap.size := by rw [setRow_size]; simp
  clear c2 E1 Z1 K1
  go_wp2_with (refine wpList_store_row rfl 26 _ _ rfl w'.heap.size #[.int .i64 d, .slice none 0 0] rfl rfl 26 aucZero (heap_alloc_new _ _) (auc_info _ _ _ _) rfl (auc_cells _ _ _ _) ?_)
  generalize (w'.alloc (.cells #[.int .i64 0, .slice none 0 0] 26)).setRow w'.heap.size #[.int .i64 d, .slice none 0 0] = W2 at x2 E2 Z2 K2 z2 ⊢
  obtain ⟨g, hg⟩ : ∃ g, g = w'.heap.size := ⟨_, rfl⟩
  rw [← hg] at x2 z1 z2 ⊢
  clear hg b26
  refine (callsByText W2).mono ?_
  rintro e w3 ⟨rfl, hm3, b3⟩
  have c3 : Chg W2 w3 0 0 := Chg.of_below b3 0 0
  have x3 := Lib.hid (x2.out.still c3)
  have E3 := Lib.hid (E2.out.still c3)
  have Z3 := Lib.hid ((c3.block _ (lt_of_block Z2.out) (.inr (Nat.zero_le _))).trans Z2.out)
  have K3 := Lib.hid (K2.out.trans (c3.to_below.mono (by omega)))
  have M3 := Lib.hid hm3
  have z3 := c3.size
  have hgm := hm3.lt
  obtain ⟨gm, hgm'⟩ : ∃ gm, gm = W2.heap.size := ⟨_, rfl⟩
  rw [← hgm'] at M3 z2 hgm ⊢
  clear hgm' hm3 b3 c3 x2 E2 Z2 K2 z3
  go_wp2_with fail
  refine (Tryd.strings_Fields_any P2 w3 (by omega) E3.out.2.1 E3.out.2.2).mono ?_
  rintro e w4 ⟨F, rfl, hF, ho, b4⟩
  have hN : (Go.Lib.fieldsD P2.data.toList).length = (flds s).length := by rw [← HF.out, List.length_map]
  have ho' : OwnT w4 w3.heap.size (.slice (some ⟨F, 0, none⟩) (flds s).length (flds s).length) (flds s) := by
    unfold OwnT
    rw [hN] at ho
    have e2 : (flds s).map Value.string = (Go.Lib.fieldsD P2.data.toList).map fun x => Value.string ⟨x.toArray⟩ := by rw [← HF.out, List.map_map]; rfl
    rw [e2]
    exact ho
  rw [hN]
  have HC := Lib.hid (show ∀ j, j < (flds s).length → F < w4.heap.size ∧ w4.cell? ⟨F, j, none⟩ = some (.string ((flds s).getD j ByteArray.empty)) from fun j hj => by
    obtain ⟨A, c, e, hA⟩ := ho'.form
    obtain ⟨b, e2, h1, h2, h3⟩ := hA (by omega)
    rw [e2] at e
    injection e with e _ _
    injection e with e
    injection e with e _ _
    rw [e]
    exact ⟨h2, h3 j hj⟩)
  have c4 : Chg w3 w4 0 0 := Chg.of_below b4 0 0
  have x4 := Lib.hid (x3.out.still c4)
  have Z4 := Lib.hid ((c4.block _ (lt_of_block Z3.out) (.inr (Nat.zero_le _))).trans Z3.out)
  have K4 := Lib.hid (K3.out.trans (c4.to_below.mono (by omega)))
  have M4 := Lib.hid (M3.out.still c4)
  have z4 := c4.size
  clear ho ho' b4 c4 x3 Z3 K3 M3 E3 HF hN
  have HW := Lib.hid (flds_word s)
  obtain ⟨ts, hts⟩ : ∃ ts, ts = flds s := ⟨_, rfl⟩
  rw [← hts] at HC HRW HRA HW HFL ⊢
  clear hts
  go_wp2_with fail
  go_loopw [26] (fun i wr => ∃ (cs : List Int) (v : Value), cs.length ≤ ts.length ∧ i = .int .i64 (cs.length : Int) ∧ Hid (wr.heap[g]? = some (.cells #[.int .i64 d, v] 26 (0, 0))) ∧ Hid (OwnV wr w4.heap.size v cs) ∧ Hid (RdTo ts cs) ∧ Hid (∀ k, k < w4.heap.size → k ≠ g → wr.heap[k]? = w4.heap[k]?) ∧ Hid (Below w.heap.size w wr) ∧ Hid (w4.heap.size ≤ wr.heap.size)) (fun i _ => ts.length - (intOf i).toNat)
  case atStart => exact ⟨[], .slice none 0 0, Nat.zero_le _, rfl, x4.out, OwnV.nil_ _ _, fun j hj => absurd hj (by simp), fun k _ _ => rfl, K4.out, Nat.le_refl _⟩
  case round =>
    obtain ⟨cs, v, hlen, rfl, hbx, hov, hrd, hke, hbl, hsz⟩ := hrel
    have ZR := Lib.hid ((hke.out w.heap.size (by omega) (by omega)).trans Z4.out)
    have hbs := hbl.out.size
    by_cases hlt : cs.length < ts.length
    · obtain ⟨hF4, hcw⟩ := HC.out cs.length hlt
      have hcell : wr.cell? ⟨F, cs.length, none⟩ = some (.string (ts.getD cs.length ByteArray.empty)) := by
        rw [World.cell?_of_block (hke.out F hF4 (by omega))]; exact hcw
      have hwz := HW.out cs.length
      have hkey := Lib.hid (key_of (t := ts.getD cs.length ByteArray.empty) (by unfold maxLen; omega))
      have HL := Lib.hid (mapC_look (ts.getD cs.length ByteArray.empty))
      have HM := Lib.hid (M4.out.of_block (hke.out gm (by omega) (by omega)))
      have HNO := Lib.hid (fun e => HRW.out cs.length hlt e)
      have HSN := Lib.hid (fun (c : Int) (e : rcV (ts.getD cs.length ByteArray.empty) = (c, true)) => hrd.out.snoc e)
      obtain ⟨t, ht⟩ : ∃ t, t = ts.getD cs.length ByteArray.empty := ⟨_, rfl⟩
      rw [← ht] at hcell hkey HL HNO HSN
      have hkl : (cs.length : Int) < (ts.length : Int) := by omega
      clear hcw hwz ht
      obtain ⟨A, ca, rfl, hca, hpl, hown⟩ := hov.out.form
      have q1 : wr.cell? ⟨g, 1, none⟩ = some (.slice A cs.length ca) := by rw [cell_of_row _ _ 1 _ _ _ hbx.out]; rfl
      have hl2 : cs.length ≤ 1048576 := by omega
      have hov' := hov.out
      cases hok : (rcV t).2
      · have hno := Lib.hid (HNO.out hok)
        rw [hok] at HL
        clear hok HSN HNO
        go_wp2_with (first | (at_lookup; refine wpList_lookup_own_ok_int _ rfl _ _ 61 rfl 9 2 .i64 strKeyed Tryd.underlying61 Tryd.underlying2 (zeroI _) gm 38 _ rfl HM.out _ _ rfl hkey.out ?_; intro c hat hwc; rw [HL.out.1]; clear hat hwc) | (refine wpList_store_row rfl 26 _ _ rfl w.heap.size aucZero rfl rfl 26 aucZero ZR.out (auc_info _ _ _ _) rfl (auc_cells _ _ _ _) ?_) | go_in)
        have ZS := Lib.hid (setRow_heap wr w.heap.size _ aucZero _ _ ZR.out)
        have KS := Lib.hid (hbl.out.trans (rowB wr (Nat.le_refl _) aucZero))
        refine bodyPost_ret (v := .tuple #[.agg aucZero, .bool false]) (results_row_tmp Tryd.results10 _ _ w.heap.size 26 aucZero (0, 0) _ _ rfl rfl ZS.out Tryd.underlying26 rfl (auc_info _ _ _ _)) rfl ?_
        rw [hno.out]
        exact ⟨.slice none 0 0, rfl, OwnV.nil_ _ _, KS.out⟩
      · rw [hok] at HL
        have hsz' := hsz.out
        go_wp2_with (first | (at_lookup; refine wpList_lookup_own_ok_int _ rfl _ _ 61 rfl 9 2 .i64 strKeyed Tryd.underlying61 Tryd.underlying2 (zeroI _) gm 38 _ rfl HM.out _ _ rfl hkey.out ?_; intro c hat hwc; rw [HL.out.1]; (have hc : Hid (c = (rcV t).1) := by { have e := hat.symm.trans HL.out.2; injection e with e; injection e }); clear hat hwc) | (at_builtin; refine wpList_push rfl (.tmp 40) (.tmp 42) rfl w4.heap.size _ _ rfl hov' _ rfl hl2 hsz' ?_; intro v5 w5 o5 b5; obtain ⟨A5, c5, rfl, _, _, _⟩ := o5.form_at (n := cs.length + 1) (by simp); have hb5 := (b5.block g (by omega)).trans hbx.out; have e1 : w5.cell? ⟨g, 1, none⟩ = some (.slice A cs.length ca) := (cell_of_row _ _ 1 _ _ _ hb5).trans rfl; have e2 : w5.frozen? ⟨g, 1, none⟩ = false := by simp [World.frozen?, hb5]) | go_in)
        have hrc : rcV t = (c, true) := by
          rw [hc.out, ← hok]
        have hn5 := b5.size
        have hk5 : Chg w5 (w5.setCell ⟨g, 1, none⟩ (.slice A5 (cs.length + 1) c5)) g (g + 1) := (Chg.refl w5 g (g + 1)).store (Nat.le_refl _) (by omega) _
        have hbx6 : Hid ((w5.setCell ⟨g, 1, none⟩ (.slice A5 (cs.length + 1) c5)).heap[g]? = some (.cells #[.int .i64 d, .slice A5 (cs.length + 1) c5] 26 (0, 0))) := set_heap7 hb5 1 _
        have hov6 := Lib.hid (o5.chg hk5 (by omega))
        have hke6 : Hid (∀ k, k < w4.heap.size → k ≠ g → (w5.setCell ⟨g, 1, none⟩ (.slice A5 (cs.length + 1) c5)).heap[k]? = w4.heap[k]?) := fun k h1 h2 => by
          rw [hk5.block k (by omega) (by omega), b5.block k h1]; exact hke.out k h1 h2
        have hbl6 := Lib.hid ((hbl.out.trans (b5.mono (by omega))).trans (Chg.above (Below.refl w.heap.size w5) hk5 (by omega) (.inl (by omega))))
        have hsz6 := Lib.hid (show w4.heap.size ≤ (w5.setCell ⟨g, 1, none⟩ (.slice A5 (cs.length + 1) c5)).heap.size by have := hk5.size; omega)
        have hl6 : (cs ++ [c]).length = cs.length + 1 := by simp
        go_roundw
        case rel => exact ⟨cs ++ [c], _, by rw [hl6]; omega, by rw [hl6]; go_num, hbx6.out, hov6.out, HSN.out c hrc, hke6.out, hbl6.out, hsz6.out⟩
        case measure => simp [intOf]; omega
    · obtain ⟨A, ca, rfl, hca, hpl, hown⟩ := hov.out.form
      have hle : cs.length = ts.length := by omega
      have HRA := Lib.hid (HRA.out cs hrd.out hle)
      have hRp := Lib.hid (Rp.of_rd hown.rd)
      have hl2 : cs.length ≤ 1048576 := by omega
      have HB : Hid (ABox wr g d A cs.length ca) := hbx.out
      have hkl : ¬ (cs.length : Int) < (ts.length : Int) := by omega
      clear hle hlt
      go_wp2_with (refine wpList_load_row rfl 26 _ rfl g rfl 26 #[.int .i64 d, .slice A cs.length ca] (0, 0) _ HB.out Tryd.underlying26 rfl (auc_info _ _ _ _) ?_)
      refine (impl_AuctionText d A cs.length ca cs _ hRp.out hl2 hca).mono ?_
      rintro e w6 ⟨rfl, c6⟩
      have HB6 := Lib.hid (HB.out.still c6)
      have ZR := Lib.hid ((c6.block _ (lt_of_block ZR.out) (.inr (Nat.zero_le _))).trans ZR.out)
      have K6 := Lib.hid (Chg.above hbl.out c6 hbs (.inr rfl))
      have O6 := Lib.hid (hov.out.chg c6 (Nat.zero_le _))
      clear c6 HB hbx hov hown hRp hpl hke hbl
      have hst := same_text (aucN d cs cs.length) s
      obtain ⟨X, hX⟩ : ∃ X, X = aucN d cs cs.length := ⟨_, rfl⟩
      rw [← hX] at HRA hst ⊢
      clear hX
      rcases HRA.out with ⟨he, hr⟩ | ⟨he, hr⟩
      · rw [decide_eq_true he] at hst
        have hno := Lib.hid hr
        have ZS := Lib.hid (setRow_heap w6 w.heap.size _ #[.int .i64 d, .slice A cs.length ca] _ _ ZR.out)
        have KS := Lib.hid (K6.out.trans (rowB w6 (Nat.le_refl _) #[.int .i64 d, .slice A cs.length ca]))
        have OS := Lib.hid ((O6.out.far w6 #[.int .i64 d, .slice A cs.length ca] (show w.heap.size < w4.heap.size by omega)).more (show w.heap.size ≤ w4.heap.size by omega))
        clear he hr HRA
        go_wp2_with (first | (refine wpList_load_row rfl 26 _ rfl g rfl 26 #[.int .i64 d, .slice A cs.length ca] (0, 0) _ HB6.out Tryd.underlying26 rfl (auc_info _ _ _ _) ?_) | (refine wpList_store_row rfl 26 _ _ rfl w.heap.size #[.int .i64 d, .slice A cs.length ca] rfl rfl 26 aucZero ZR.out (auc_info _ _ _ _) rfl (auc_cells _ _ _ _) ?_))
        refine bodyPost_ret (v := .tuple #[.agg #[.int .i64 d, .slice A cs.length ca], .bool true]) (results_row_tmp Tryd.results10 _ _ w.heap.size 26 #[.int .i64 d, .slice A cs.length ca] (0, 0) _ _ rfl rfl ZS.out Tryd.underlying26 rfl (auc_info _ _ _ _)) rfl ?_
        rw [hno.out]
        exact ⟨_, rfl, OS.out, KS.out⟩
      · rw [decide_eq_false he] at hst
        have hno := Lib.hid hr
        clear he hr HRA
        have ZS := Lib.hid (setRow_heap w6 w.heap.size _ aucZero _ _ ZR.out)
        have KS := Lib.hid (K6.out.trans (rowB w6 (Nat.le_refl _) aucZero))
        go_wp2_with (refine wpList_store_row rfl 26 _ _ rfl w.heap.size aucZero rfl rfl 26 aucZero ZR.out (auc_info _ _ _ _) rfl (auc_cells _ _ _ _) ?_)
        refine bodyPost_ret (v := .tuple #[.agg aucZero, .bool false]) (results_row_tmp Tryd.results10 _ _ w.heap.size 26 aucZero (0, 0) _ _ rfl rfl ZS.out Tryd.underlying26 rfl (auc_info _ _ _ _)) rfl ?_
        rw [hno.out]
        exact ⟨.slice none 0 0, rfl, OwnV.nil_ _ _, KS.out⟩

end Go.Proofs.YtnkbcmkngghnoaaDoor.Lib1
