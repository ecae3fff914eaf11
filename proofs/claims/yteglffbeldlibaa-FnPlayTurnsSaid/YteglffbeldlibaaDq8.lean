/- Chapter 8, the model: a deal and a play that is rarely not one of it, drawn. (Written by wip/gen8u.py.) -/
import Derived.Test.YteglffbeldlibaaDp8
import Derived.Test.YteglffbeldlibaaDraw3b
namespace Go.Proofs.Yteglffbeldlibaa.Lib1
open Go.RowKit
set_option maxRecDepth 100000

theorem SBox.f8 {w : World} {t : TypeId} {g : Nat} {cs : Array Value} (h : SBox w t g cs) (i : Nat) : w.frozen? ⟨g, i, none⟩ = false := by simp [World.frozen?, show w.heap[g]? = _ from h]
theorem OwnV.own8 {w : World} {base : Nat} {A : Option Addr} {m c : Nat} {zs : List Int} (h : OwnV w base (.slice A m c) zs) : Own w base w.heap.size A m zs := by
  obtain ⟨A', c', e, _, _, h3⟩ := h.form
  injection e with e1 e2 e3
  subst e1; subst e2; subst e3
  exact h3
theorem deal_rows8 {zss : List (List Int)} (h : dealB zss = true) : ∀ j, (zss.getD j []).length ≤ 15 := fun j => by
  by_cases hj : j < 4
  · exact Nat.le_trans (rows_ok h hj).1 (by omega)
  · rw [List.getD_eq_getElem?_getD, List.getElem?_eq_none (by have := ((deal_iff zss).1 h).1; omega)]; exact Nat.zero_le _
theorem Own.cell8 {w : World} {lo hi b n k : Nat} {zs : List Int} (h : Own w lo hi (some ⟨b, 0, none⟩) n zs) (hk : k < n) : w.cell? ⟨b, k, none⟩ = some (.int .i64 (zs.getD k 0)) ∧ w.frozen? ⟨b, k, none⟩ = false := by
  obtain ⟨b', cs, e, _, _, hb, hc⟩ := h.2 (by omega)
  injection e with e
  injection e with e1 _ _
  subst e1
  exact ⟨(cell_of_row w b k cs _ _ hb).trans (hc k hk), by simp [World.frozen?, hb]⟩
/-- A deal and a play were drawn, or what is none. -/
def DrewQ8 (g : Nat) (w : World) (e : Ending) (w' : World) : Prop :=
  ∃ D n c zss st ld A m cp us, e = .returned (.tuple #[.agg #[.slice D n c], .agg #[.int .i64 st, .int .i64 ld, .slice A m cp]]) ∧ n ≤ c ∧ (∀ j, (zss.getD j []).length ≤ 15) ∧ m ≤ 53 ∧ m ≤ cp ∧ (A = none → cp = 0) ∧ RdR w' w.heap.size w'.heap.size D n zss ∧ Rd w' w.heap.size w'.heap.size A m us ∧ Src w' g ∧ Chg w w' g (g + 1)
set_option maxHeartbeats 8000000 in
/-- spec.l08DrawAny -/
theorem l08DrawAny (g : Nat) (w : World) (hsrc : Src w g) : Calls Try.prog 63 #[.pointer (some ⟨g, 0, none⟩)] w (DrewQ8 g w) := by
  have hg := hsrc.lt
  have e1 : (w.alloc (.cells #[.slice none 0 0] 26)).heap.size = w.heap.size + 1 := by simp
  have a1 := Chg.of_alloc w (.cells #[.slice none 0 0] 26) 0 0
  have a2 := Chg.of_alloc (w.alloc (.cells #[.slice none 0 0] 26)) (.cells #[.int .i64 0, .int .i64 0, .slice none 0 0] 29) 0 0
  have x1 := (SBox.new w 26 #[.slice none 0 0]).still a2
  have x2 := SBox.new (w.alloc (.cells #[.slice none 0 0] 26)) 29 #[.int .i64 0, .int .i64 0, .slice none 0 0]
  rw [e1] at x2
  have H1 := Lib.hid x1
  have H2 := Lib.hid x2
  have HS := Lib.hid (hsrc.still (a1.trans a2))
  have HC := Lib.hid ((a1.trans a2).any g (g + 1))
  have HZ := Lib.hid x2.lt
  clear hsrc e1 a1 a2 x1 x2
  go_enter Try.func63, Try.ntmps63
  go_wp2_with fail
  generalize ((w.alloc (.cells #[.slice none 0 0] 26)).alloc (.cells #[.int .i64 0, .int .i64 0, .slice none 0 0] 29)) = W at H1 H2 HS HC HZ ⊢
  refine (l08Draw g 4 W HS.out (by omega) (by omega)).mono ?_
  rintro e w1 ⟨b, c, zss, st, ld, A, m, cp, us, q, rfl, hc4, hrow, hdl, hov, ⟨hq1, hq2⟩, _, _, _, h52, s1, c1⟩
  have hum := hov.parts8
  have hm52 : m ≤ 52 := by omega
  have H15 := Lib.hid (deal_rows8 hdl)
  have HMC := Lib.hid hum.2.1
  have HNIL := Lib.hid hum.2.2.1
  have hwq : w.heap.size + 2 ≤ q := by have := HZ.out; omega
  have HR := Lib.hid (hrow.rd.more (by have := HZ.out; omega) (Nat.le_refl _) : RdR w1 (w.heap.size + 2) q _ _ _)
  have HO := Lib.hid hov.own8
  have H1 := Lib.hid (H1.out.chg c1 (by omega))
  have H2 := Lib.hid (H2.out.chg c1 (by omega))
  have HS := Lib.hid s1
  have HC := Lib.hid (HC.out.trans c1)
  clear hrow hdl hov hum h52 s1 c1 hq1 HZ
  obtain ⟨db, hdb⟩ : ∃ db, db = w1.heap.size := ⟨_, rfl⟩
  rw [← hdb] at hq2 HO
  obtain ⟨pb, hpb⟩ : ∃ pb, pb = db + 1 := ⟨_, rfl⟩
  have a3 := Chg.of_alloc w1 (.cells #[.slice none 0 0] 26) 0 0
  have a4 := Chg.of_alloc (w1.alloc (.cells #[.slice none 0 0] 26)) (.cells #[.int .i64 0, .int .i64 0, .slice none 0 0] 29) 0 0
  have HB1 := Lib.hid ((SBox.new w1 26 #[.slice none 0 0]).still a4)
  have HB2 := Lib.hid (SBox.new (w1.alloc (.cells #[.slice none 0 0] 26)) 29 #[.int .i64 0, .int .i64 0, .slice none 0 0])
  rw [← hdb] at HB1
  rw [show (w1.alloc (.cells #[.slice none 0 0] 26)).heap.size = pb by simp; omega] at HB2
  have a5 := a3.trans a4
  have H1 := Lib.hid (H1.out.still a5)
  have H2 := Lib.hid (H2.out.still a5)
  have HR := Lib.hid (HR.out.chg a5 (.inr (Nat.zero_le _)))
  have HO := Lib.hid (HO.out.still a5)
  have HS := Lib.hid (HS.out.still a5)
  have HC := Lib.hid (HC.out.trans (a5.any g (g + 1)))
  have k1 := chgr8 ((w1.alloc (.cells #[.slice none 0 0] 26)).alloc (.cells #[.int .i64 0, .int .i64 0, .slice none 0 0] 29)) db #[.slice (some ⟨b, 0, none⟩) 4 c]
  have k2 := chgr8 (((w1.alloc (.cells #[.slice none 0 0] 26)).alloc (.cells #[.int .i64 0, .int .i64 0, .slice none 0 0] 29)).setRow db #[.slice (some ⟨b, 0, none⟩) 4 c]) pb #[.int .i64 st, .int .i64 ld, .slice A m cp]
  have HB3 := Lib.hid (HB2.out.chg k1 (by omega))
  have HD := Lib.hid (SBox.chg (setRow_heap _ db _ #[.slice (some ⟨b, 0, none⟩) 4 c] _ _ HB1.out) k2 (by omega))
  have HP := Lib.hid (show SBox _ _ _ _ from setRow_heap _ pb _ #[.int .i64 st, .int .i64 ld, .slice A m cp] _ _ HB3.out)
  have H1 := Lib.hid ((H1.out.chg k1 (by omega)).chg k2 (by omega))
  have H2 := Lib.hid ((H2.out.chg k1 (by omega)).chg k2 (by omega))
  have HR := Lib.hid ((HR.out.chg k1 (.inl (by omega))).chg k2 (.inl (by omega)))
  have HO := Lib.hid ((HO.out.chg k1 (.inl (by omega))).chg k2 (.inl (by omega)))
  have HS := Lib.hid ((HS.out.chg k1 (.inl (by omega))).chg k2 (.inl (by omega)))
  have HC := Lib.hid (chg_to8 (chg_to8 HC.out k1 (by omega)) k2 (by omega))
  have HZ := Lib.hid (Nat.lt_of_lt_of_le HB3.out.lt k2.size)
  have HDB := Lib.hid hdb
  have HPB := Lib.hid hpb
  have hdp : db < pb := by omega
  have p2 := HP.out.p2
  clear hdb hpb a3 a4 a5 k1 k2 HB2
  go_wp2_with (first | (rw [← HDB.out]; refine wpList_store_row rfl 26 _ _ rfl db #[.slice (some ⟨b, 0, none⟩) 4 c] rfl rfl 26 #[.slice none 0 0] HB1.out (deal_info8 _) rfl (deal_cells8 _ _ _) ?_) | (rw [← HPB.out]; refine wpList_store_row rfl 29 _ _ rfl pb #[.int .i64 st, .int .i64 ld, .slice A m cp] rfl rfl 29 #[.int .i64 0, .int .i64 0, .slice none 0 0] HB3.out (play_info _ _ _ _ _) rfl (play_cells _ _ _ _ _) ?_))
  generalize ((((w1.alloc (.cells #[.slice none 0 0] 26)).alloc (.cells #[.int .i64 0, .int .i64 0, .slice none 0 0] 29)).setRow db #[.slice (some ⟨b, 0, none⟩) 4 c]).setRow pb #[.int .i64 st, .int .i64 ld, .slice A m cp]) = W5 at HD HP H1 H2 HR HO HS HC HZ p2 ⊢
  clear HDB HPB HB1 HB3 p2
  refine (l01Next g 20 W5 HS.out (by omega)).mono ?_
  rintro e w6 ⟨r, rfl, _, s1, c1⟩
  have HD := Lib.hid (HD.out.chg c1 (by omega))
  have HP := Lib.hid (HP.out.chg c1 (by omega))
  have H1 := Lib.hid (H1.out.chg c1 (by omega))
  have H2 := Lib.hid (H2.out.chg c1 (by omega))
  have HR := Lib.hid (HR.out.chg c1 (.inr (by omega)))
  have HO := Lib.hid (HO.out.chg c1 (.inr (by omega)))
  have HS := Lib.hid s1
  have HC := Lib.hid (HC.out.trans c1)
  have HZ := Lib.hid (Nat.lt_of_lt_of_le HZ.out c1.size)
  have HZ0 := Lib.hid HZ.out
  clear s1 c1
  by_cases p0 : r = 0
  · subst p0
    go_wp2_with fail
    have a7 := Chg.of_alloc w6 (.cells #[.int .i64 (-1), .int .i64 5] 2) 0 0
    have HL := Lib.hid (SBox.new w6 2 #[.int .i64 (-1), .int .i64 5])
    have HD := Lib.hid (HD.out.chg a7 (by omega))
    have HP := Lib.hid (HP.out.chg a7 (by omega))
    have H1 := Lib.hid (H1.out.chg a7 (by omega))
    have H2 := Lib.hid (H2.out.chg a7 (by omega))
    have HR := Lib.hid (HR.out.chg a7 (.inr (by omega)))
    have HO := Lib.hid (HO.out.chg a7 (.inr (by omega)))
    have HS := Lib.hid (HS.out.still a7)
    have HC := Lib.hid (HC.out.trans (a7.any g (g + 1)))
    have HZ := Lib.hid (Nat.le_trans HZ.out a7.size)
    have hlb : w.heap.size + 2 ≤ w6.heap.size := by have := HZ0.out; omega
    generalize w6.alloc (.cells #[.int .i64 (-1), .int .i64 5] 2) = w7 at HL HD HP H1 H2 HR HO HS HC HZ ⊢
    clear a7
    generalize w6.heap.size = lb at HL hlb ⊢
    refine (l01Next g 2 w7 HS.out (by omega)).mono ?_
    rintro e w8 ⟨k, rfl, ⟨k0, k1⟩, s1, c1⟩
    have HL := Lib.hid (HL.out.chg c1 (by omega))
    have HD := Lib.hid (HD.out.chg c1 (by omega))
    have HP := Lib.hid (HP.out.chg c1 (by omega))
    have H1 := Lib.hid (H1.out.chg c1 (by omega))
    have H2 := Lib.hid (H2.out.chg c1 (by omega))
    have HR := Lib.hid (HR.out.chg c1 (.inr (by omega)))
    have HO := Lib.hid (HO.out.chg c1 (.inr (by omega)))
    have HS := Lib.hid (s1)
    have HC := Lib.hid (HC.out.trans c1)
    have HZ := Lib.hid (Nat.le_trans HZ.out c1.size)
    have k2 := k1 (by omega)
    clear s1 c1 k1
    obtain ⟨kk, rfl⟩ : ∃ kk : Nat, k = (kk : Int) := ⟨k.toNat, by omega⟩
    have hkk : kk < 2 := by omega
    obtain ⟨x, hx⟩ : ∃ x : Int, w8.cell? ⟨lb, kk, none⟩ = some (.int .i64 x) := by rw [HL.out.cell]; match kk, hkk with | 0, _ => exact ⟨-1, rfl⟩ | 1, _ => exact ⟨5, rfl⟩
    clear HL
    have pst := HP.out.p0
    have fst := HP.out.f8 0
    have HP9 := Lib.hid (show SBox (w8.setCell ⟨pb, 0, none⟩ (.int .i64 x)) 29 pb #[.int .i64 x, .int .i64 ld, .slice A m cp] from by have := block_set (i := 0) HP.out (.int .i64 x); unfold SBox; simpa using this)
    have cs1 := chg_set w8 pb 0 (.int .i64 x)
    have HD := Lib.hid (HD.out.chg cs1 (by omega))
    have H1 := Lib.hid (H1.out.chg cs1 (by omega))
    have H2 := Lib.hid (H2.out.chg cs1 (by omega))
    have HR := Lib.hid (HR.out.chg cs1 (.inl (by omega)))
    have HO := Lib.hid (HO.out.chg cs1 (.inl (by omega)))
    have HS := Lib.hid (HS.out.chg cs1 (.inl (by omega)))
    have HC := Lib.hid (chg_to8 HC.out cs1 (by omega))
    have HZ := Lib.hid (Nat.le_trans HZ.out cs1.size)
    have HP := HP9
    clear HP9 cs1
    go_wp2_with fail
    generalize (w8.setCell ⟨pb, 0, none⟩ (.int .i64 x)) = w9 at HD HP H1 H2 HR HO HS HC HZ ⊢
    have HR := Lib.hid (HR.out.more (by omega) (by have := HZ.out; omega) : RdR w9 (w.heap.size + 2) w9.heap.size _ _ _)
    have HO := Lib.hid (HO.out.rd.more (by omega) (by have := HZ.out; omega) : Rd w9 (w.heap.size + 2) w9.heap.size _ _ _)
    have HZ := Lib.hid (Nat.le_refl w9.heap.size)
    have cd : Chg w9 w9.drew 0 0 := Chg.of_drew ⟨1, rfl⟩ 0 0
    have HD := Lib.hid (HD.out.chg cd (by omega))
    have HP := Lib.hid (HP.out.chg cd (by omega))
    have H1 := Lib.hid (H1.out.chg cd (by omega))
    have H2 := Lib.hid (H2.out.chg cd (by omega))
    have HR := Lib.hid (HR.out.chg cd (.inr (by omega)))
    have HO := Lib.hid (HO.out.chg cd (.inr (by omega)))
    have HS := Lib.hid (HS.out.still cd)
    have HC := Lib.hid (HC.out.trans (cd.any g (g + 1)))
    have HZ := Lib.hid (Nat.le_trans HZ.out cd.size)
    have hS0 := And.intro HD.out HP.out
    clear cd
    go_wp2_with fail
    refine wp_region_held_drew (S := fun V => SBox V 26 db #[.slice (some ⟨b, 0, none⟩) 4 c] ∧ SBox V 29 pb #[.int .i64 x, .int .i64 ld, .slice A m cp]) (by kernel_rfl) hS0 (fun hHeld => ?_)
    generalize w9.drew = V0 at HD HP H1 H2 HR HO HS HC HZ hHeld ⊢
    refine take_slotC (i := 0) (d := some 84) (v := .agg #[.slice (some ⟨b, 0, none⟩) 4 c]) rfl (by kernel_rfl) (by kernel_rfl) (by kernel_rfl) (by kernel_rfl) (fun _ _ _ h => h) (yieldsIf_load_mid (by kernel_rfl) 26 (.tmp 4) rfl db 0 rfl [.slice (some ⟨b, 0, none⟩) 4 c] _ (fun V hV => SBox.range hV.1) Try.underlying26 rfl (deal_infoLd _)) hHeld ?_
    try simp only [Act.put, List.setIfInBounds_toArray, List.set_cons_zero, List.set_cons_succ]
    refine take_slotC (i := 1) (d := some 85) (v := .agg #[.int .i64 x, .int .i64 ld, .slice A m cp]) rfl (by kernel_rfl) (by kernel_rfl) (by kernel_rfl) (by kernel_rfl) (fun _ _ _ h => h) (yieldsIf_load_mid (by kernel_rfl) 29 (.tmp 5) rfl pb 0 rfl [.int .i64 x, .int .i64 ld, .slice A m cp] _ (fun V hV => SBox.range hV.2) Try.underlying29 rfl (play_infoL _ _ _)) hHeld ?_
    try simp only [Act.put, List.setIfInBounds_toArray, List.set_cons_zero, List.set_cons_succ]
    refine wpAnyH_ready (rs := [2]) (by kernel_rfl) (by simp) (AllReadyH.cons (i := 2) rfl (fun K' hK' => ?_) AllReadyH.nil)
    have N1 := Lib.hid (setRow_heap V0 w.heap.size _ #[.slice (some ⟨b, 0, none⟩) 4 c] _ _ H1.out)
    have Cr := chgr8 V0 w.heap.size #[.slice (some ⟨b, 0, none⟩) 4 c]
    refine step_of_wp7 rfl (wp_store_row 26 _ _ rfl w.heap.size #[.slice (some ⟨b, 0, none⟩) 4 c] rfl rfl 26 #[.slice none 0 0] H1.out (deal_info8 _) rfl (deal_cells8 _ _ _) ?_)
    have HD := Lib.hid (HD.out.chg Cr (by omega))
    have HP := Lib.hid (HP.out.chg Cr (by omega))
    have HR := Lib.hid (HR.out.chg Cr (.inr (by omega)))
    have HO := Lib.hid (HO.out.chg Cr (.inr (by omega)))
    have HS := Lib.hid (HS.out.chg Cr (.inl (by omega)))
    have HC := Lib.hid (chg_to8 HC.out Cr (by omega))
    have HZ := Lib.hid (Nat.le_trans HZ.out Cr.size)
    have H2 := Lib.hid (H2.out.chg Cr (by omega))
    refine hK'.out _ _ (And.intro HD.out HP.out) (fun hHeld => ?_)
    clear hK' Cr
    generalize V0.setRow w.heap.size #[.slice (some ⟨b, 0, none⟩) 4 c] = V1 at N1 HD HP HR HO HS HC HZ H2 hHeld ⊢
    refine wpAnyH_ready (rs := [3]) (by kernel_rfl) (by simp) (AllReadyH.cons (i := 3) rfl (fun K' hK' => ?_) AllReadyH.nil)
    have N2 := Lib.hid (setRow_heap V1 (w.heap.size + 1) _ #[.int .i64 x, .int .i64 ld, .slice A m cp] _ _ H2.out)
    have Cr := chgr8 V1 (w.heap.size + 1) #[.int .i64 x, .int .i64 ld, .slice A m cp]
    refine step_of_wp7 rfl (wp_store_row 29 _ _ rfl (w.heap.size + 1) #[.int .i64 x, .int .i64 ld, .slice A m cp] rfl rfl 29 #[.int .i64 0, .int .i64 0, .slice none 0 0] H2.out (play_info _ _ _ _ _) rfl (play_cells _ _ _ _ _) ?_)
    have HD := Lib.hid (HD.out.chg Cr (by omega))
    have HP := Lib.hid (HP.out.chg Cr (by omega))
    have HR := Lib.hid (HR.out.chg Cr (.inr (by omega)))
    have HO := Lib.hid (HO.out.chg Cr (.inr (by omega)))
    have HS := Lib.hid (HS.out.chg Cr (.inl (by omega)))
    have HC := Lib.hid (chg_to8 HC.out Cr (by omega))
    have HZ := Lib.hid (Nat.le_trans HZ.out Cr.size)
    have N1 := Lib.hid (SBox.chg N1.out Cr (by omega))
    refine hK'.out _ _ (And.intro HD.out HP.out) (fun hHeld => ?_)
    clear hK' hHeld Cr
    generalize V1.setRow (w.heap.size + 1) #[.int .i64 x, .int .i64 ld, .slice A m cp] = V2 at N1 N2 HD HP HR HO HS HC HZ ⊢
    refine wpAnyH_done (by kernel_rfl) ?_ _
    go_wp2_with fail
    refine bodyPost_ret (v := .tuple #[.agg #[.slice (some ⟨b, 0, none⟩) 4 c], .agg #[.int .i64 x, .int .i64 ld, .slice A m cp]]) (results_rows8 Try.results63 _ _ w.heap.size (w.heap.size + 1) #[.slice (some ⟨b, 0, none⟩) 4 c] #[.int .i64 x, .int .i64 ld, .slice A m cp] _ _ rfl rfl N1.out N2.out Try.underlying26 rfl (deal_info8 _) Try.underlying29 rfl (play_info _ _ _ _ _)) rfl ?_
    exact ⟨some ⟨b, 0, none⟩, 4, c, zss, x, ld, A, m, cp, us, rfl, hc4, H15.out, by omega, HMC.out, HNIL.out, HR.out.more (by omega) HZ.out, HO.out.more (by omega) HZ.out, HS.out, HC.out⟩
  · skip
    by_cases p1 : r = 1
    · subst p1
      go_wp2_with fail
      refine (l01Next g 6 w6 HS.out (by omega)).mono ?_
      rintro e w7 ⟨k, rfl, ⟨k0, k1⟩, s1, c1⟩
      have HD := Lib.hid (HD.out.chg c1 (by omega))
      have HP := Lib.hid (HP.out.chg c1 (by omega))
      have H1 := Lib.hid (H1.out.chg c1 (by omega))
      have H2 := Lib.hid (H2.out.chg c1 (by omega))
      have HR := Lib.hid (HR.out.chg c1 (.inr (by omega)))
      have HO := Lib.hid (HO.out.chg c1 (.inr (by omega)))
      have HS := Lib.hid (s1)
      have HC := Lib.hid (HC.out.trans c1)
      have HZ := Lib.hid (Nat.le_trans HZ.out c1.size)
      clear s1 c1
      have k2 := k1 (by omega)
      have wk : IntKind.i64.wrap (k - 1) = k - 1 := IntWalk.i64_in _ (by omega)
      have pst := HP.out.p1
      have fst := HP.out.f8 1
      have HP9 := Lib.hid (show SBox (w7.setCell ⟨pb, 1, none⟩ (.int .i64 (k - 1))) 29 pb #[.int .i64 st, .int .i64 (k - 1), .slice A m cp] from by have := block_set (i := 1) HP.out (.int .i64 (k - 1)); unfold SBox; simpa using this)
      have cs1 := chg_set w7 pb 1 (.int .i64 (k - 1))
      have HD := Lib.hid (HD.out.chg cs1 (by omega))
      have H1 := Lib.hid (H1.out.chg cs1 (by omega))
      have H2 := Lib.hid (H2.out.chg cs1 (by omega))
      have HR := Lib.hid (HR.out.chg cs1 (.inl (by omega)))
      have HO := Lib.hid (HO.out.chg cs1 (.inl (by omega)))
      have HS := Lib.hid (HS.out.chg cs1 (.inl (by omega)))
      have HC := Lib.hid (chg_to8 HC.out cs1 (by omega))
      have HZ := Lib.hid (Nat.le_trans HZ.out cs1.size)
      have HP := HP9
      clear HP9 cs1
      go_wp2_with fail
      generalize (w7.setCell ⟨pb, 1, none⟩ (.int .i64 (k - 1))) = w9 at HD HP H1 H2 HR HO HS HC HZ ⊢
      have HR := Lib.hid (HR.out.more (by omega) (by have := HZ.out; omega) : RdR w9 (w.heap.size + 2) w9.heap.size _ _ _)
      have HO := Lib.hid (HO.out.rd.more (by omega) (by have := HZ.out; omega) : Rd w9 (w.heap.size + 2) w9.heap.size _ _ _)
      have HZ := Lib.hid (Nat.le_refl w9.heap.size)
      have cd : Chg w9 w9.drew 0 0 := Chg.of_drew ⟨1, rfl⟩ 0 0
      have HD := Lib.hid (HD.out.chg cd (by omega))
      have HP := Lib.hid (HP.out.chg cd (by omega))
      have H1 := Lib.hid (H1.out.chg cd (by omega))
      have H2 := Lib.hid (H2.out.chg cd (by omega))
      have HR := Lib.hid (HR.out.chg cd (.inr (by omega)))
      have HO := Lib.hid (HO.out.chg cd (.inr (by omega)))
      have HS := Lib.hid (HS.out.still cd)
      have HC := Lib.hid (HC.out.trans (cd.any g (g + 1)))
      have HZ := Lib.hid (Nat.le_trans HZ.out cd.size)
      have hS0 := And.intro HD.out HP.out
      clear cd
      go_wp2_with fail
      refine wp_region_held_drew (S := fun V => SBox V 26 db #[.slice (some ⟨b, 0, none⟩) 4 c] ∧ SBox V 29 pb #[.int .i64 st, .int .i64 (k - 1), .slice A m cp]) (by kernel_rfl) hS0 (fun hHeld => ?_)
      generalize w9.drew = V0 at HD HP H1 H2 HR HO HS HC HZ hHeld ⊢
      refine take_slotC (i := 0) (d := some 84) (v := .agg #[.slice (some ⟨b, 0, none⟩) 4 c]) rfl (by kernel_rfl) (by kernel_rfl) (by kernel_rfl) (by kernel_rfl) (fun _ _ _ h => h) (yieldsIf_load_mid (by kernel_rfl) 26 (.tmp 4) rfl db 0 rfl [.slice (some ⟨b, 0, none⟩) 4 c] _ (fun V hV => SBox.range hV.1) Try.underlying26 rfl (deal_infoLd _)) hHeld ?_
      try simp only [Act.put, List.setIfInBounds_toArray, List.set_cons_zero, List.set_cons_succ]
      refine take_slotC (i := 1) (d := some 85) (v := .agg #[.int .i64 st, .int .i64 (k - 1), .slice A m cp]) rfl (by kernel_rfl) (by kernel_rfl) (by kernel_rfl) (by kernel_rfl) (fun _ _ _ h => h) (yieldsIf_load_mid (by kernel_rfl) 29 (.tmp 5) rfl pb 0 rfl [.int .i64 st, .int .i64 (k - 1), .slice A m cp] _ (fun V hV => SBox.range hV.2) Try.underlying29 rfl (play_infoL _ _ _)) hHeld ?_
      try simp only [Act.put, List.setIfInBounds_toArray, List.set_cons_zero, List.set_cons_succ]
      refine wpAnyH_ready (rs := [2]) (by kernel_rfl) (by simp) (AllReadyH.cons (i := 2) rfl (fun K' hK' => ?_) AllReadyH.nil)
      have N1 := Lib.hid (setRow_heap V0 w.heap.size _ #[.slice (some ⟨b, 0, none⟩) 4 c] _ _ H1.out)
      have Cr := chgr8 V0 w.heap.size #[.slice (some ⟨b, 0, none⟩) 4 c]
      refine step_of_wp7 rfl (wp_store_row 26 _ _ rfl w.heap.size #[.slice (some ⟨b, 0, none⟩) 4 c] rfl rfl 26 #[.slice none 0 0] H1.out (deal_info8 _) rfl (deal_cells8 _ _ _) ?_)
      have HD := Lib.hid (HD.out.chg Cr (by omega))
      have HP := Lib.hid (HP.out.chg Cr (by omega))
      have HR := Lib.hid (HR.out.chg Cr (.inr (by omega)))
      have HO := Lib.hid (HO.out.chg Cr (.inr (by omega)))
      have HS := Lib.hid (HS.out.chg Cr (.inl (by omega)))
      have HC := Lib.hid (chg_to8 HC.out Cr (by omega))
      have HZ := Lib.hid (Nat.le_trans HZ.out Cr.size)
      have H2 := Lib.hid (H2.out.chg Cr (by omega))
      refine hK'.out _ _ (And.intro HD.out HP.out) (fun hHeld => ?_)
      clear hK' Cr
      generalize V0.setRow w.heap.size #[.slice (some ⟨b, 0, none⟩) 4 c] = V1 at N1 HD HP HR HO HS HC HZ H2 hHeld ⊢
      refine wpAnyH_ready (rs := [3]) (by kernel_rfl) (by simp) (AllReadyH.cons (i := 3) rfl (fun K' hK' => ?_) AllReadyH.nil)
      have N2 := Lib.hid (setRow_heap V1 (w.heap.size + 1) _ #[.int .i64 st, .int .i64 (k - 1), .slice A m cp] _ _ H2.out)
      have Cr := chgr8 V1 (w.heap.size + 1) #[.int .i64 st, .int .i64 (k - 1), .slice A m cp]
      refine step_of_wp7 rfl (wp_store_row 29 _ _ rfl (w.heap.size + 1) #[.int .i64 st, .int .i64 (k - 1), .slice A m cp] rfl rfl 29 #[.int .i64 0, .int .i64 0, .slice none 0 0] H2.out (play_info _ _ _ _ _) rfl (play_cells _ _ _ _ _) ?_)
      have HD := Lib.hid (HD.out.chg Cr (by omega))
      have HP := Lib.hid (HP.out.chg Cr (by omega))
      have HR := Lib.hid (HR.out.chg Cr (.inr (by omega)))
      have HO := Lib.hid (HO.out.chg Cr (.inr (by omega)))
      have HS := Lib.hid (HS.out.chg Cr (.inl (by omega)))
      have HC := Lib.hid (chg_to8 HC.out Cr (by omega))
      have HZ := Lib.hid (Nat.le_trans HZ.out Cr.size)
      have N1 := Lib.hid (SBox.chg N1.out Cr (by omega))
      refine hK'.out _ _ (And.intro HD.out HP.out) (fun hHeld => ?_)
      clear hK' hHeld Cr
      generalize V1.setRow (w.heap.size + 1) #[.int .i64 st, .int .i64 (k - 1), .slice A m cp] = V2 at N1 N2 HD HP HR HO HS HC HZ ⊢
      refine wpAnyH_done (by kernel_rfl) ?_ _
      go_wp2_with fail
      refine bodyPost_ret (v := .tuple #[.agg #[.slice (some ⟨b, 0, none⟩) 4 c], .agg #[.int .i64 st, .int .i64 (k - 1), .slice A m cp]]) (results_rows8 Try.results63 _ _ w.heap.size (w.heap.size + 1) #[.slice (some ⟨b, 0, none⟩) 4 c] #[.int .i64 st, .int .i64 (k - 1), .slice A m cp] _ _ rfl rfl N1.out N2.out Try.underlying26 rfl (deal_info8 _) Try.underlying29 rfl (play_info _ _ _ _ _)) rfl ?_
      exact ⟨some ⟨b, 0, none⟩, 4, c, zss, st, (k - 1), A, m, cp, us, rfl, hc4, H15.out, by omega, HMC.out, HNIL.out, HR.out.more (by omega) HZ.out, HO.out.more (by omega) HZ.out, HS.out, HC.out⟩
    · skip
      by_cases p2 : r = 2
      · subst p2
        by_cases hm0 : 0 < m
        · have hm0I : (0 : Int) < (m : Int) := by omega
          obtain ⟨cb, _, rfl, hcb1, hcb2, _, _⟩ := HO.out.2 hm0
          go_wp2_with fail
          have cd : Chg w6 w6.drew 0 0 := Chg.of_drew ⟨1, rfl⟩ 0 0
          have HD := Lib.hid (HD.out.chg cd (by omega))
          have HP := Lib.hid (HP.out.chg cd (by omega))
          have H1 := Lib.hid (H1.out.chg cd (by omega))
          have H2 := Lib.hid (H2.out.chg cd (by omega))
          have HR := Lib.hid (HR.out.chg cd (.inr (by omega)))
          have HO := Lib.hid (HO.out.chg cd (.inr (by omega)))
          have HS := Lib.hid (HS.out.still cd)
          have HC := Lib.hid (HC.out.trans (cd.any g (g + 1)))
          have HZ := Lib.hid (Nat.le_trans HZ.out cd.size)
          have hS0 := HP.out.p2
          clear cd
          refine wp_region_held_drew (S := fun V => V.cell? ⟨pb, 2, none⟩ = some (.slice (some ⟨cb, 0, none⟩) m cp)) (by kernel_rfl) hS0 (fun hHeld => ?_)
          generalize w6.drew = V0 at HD HP H1 H2 HR HO HS HC HZ hHeld ⊢
          refine take_slotC (i := 0) (d := some 37) (v := .pointer (some ⟨pb, 2, none⟩)) rfl (by kernel_rfl) (by kernel_rfl) (by kernel_rfl) (by kernel_rfl) (fun _ _ _ h => h) (.inl ⟨by kernel_rfl, fun V hV => by go_simp⟩) hHeld ?_
          try simp only [Act.put, List.setIfInBounds_toArray, List.set_cons_zero, List.set_cons_succ]
          refine take_slotC (i := 1) (d := some 38) (v := .slice (some ⟨cb, 0, none⟩) m cp) rfl (by kernel_rfl) (by kernel_rfl) (by kernel_rfl) (by kernel_rfl) (fun _ _ _ h => h) (.inl ⟨by kernel_rfl, fun V hV => by go_simp⟩) hHeld ?_
          try simp only [Act.put, List.setIfInBounds_toArray, List.set_cons_zero, List.set_cons_succ]
          refine take_slotC (i := 2) (d := some 39) (v := .pointer (some ⟨g, 0, none⟩)) rfl (by kernel_rfl) (by kernel_rfl) (by kernel_rfl) (by kernel_rfl) (fun _ _ _ h => h) (.inl ⟨by kernel_rfl, fun V hV => by go_simp⟩) hHeld ?_
          try simp only [Act.put, List.setIfInBounds_toArray, List.set_cons_zero, List.set_cons_succ]
          refine take_slotC (i := 3) (d := some 40) (v := .int .i64 (m : Int)) rfl (by kernel_rfl) (by kernel_rfl) (by kernel_rfl) (by kernel_rfl) (fun _ _ _ h => h) (.inl ⟨by kernel_rfl, fun V hV => by go_simp⟩) hHeld ?_
          try simp only [Act.put, List.setIfInBounds_toArray, List.set_cons_zero, List.set_cons_succ]
          refine take_slotC (i := 5) (d := some 42) (v := .pointer (some ⟨g, 0, none⟩)) rfl (by kernel_rfl) (by kernel_rfl) (by kernel_rfl) (by kernel_rfl) (fun _ _ _ h => h) (.inl ⟨by kernel_rfl, fun V hV => by go_simp⟩) hHeld ?_
          try simp only [Act.put, List.setIfInBounds_toArray, List.set_cons_zero, List.set_cons_succ]
          refine wpAnyH_ready (rs := [4]) (by kernel_rfl) (by simp) (AllReadyH.cons (i := 4) rfl (fun K' hK' => ?_) AllReadyH.nil)
          go_simp
          refine (l01Next g (m : Int) V0 HS.out (by omega)).mono ?_
          rintro e w7 ⟨k, rfl, ⟨k0, k1⟩, s1, c1⟩
          have HD := Lib.hid (HD.out.chg c1 (by omega))
          have HP := Lib.hid (HP.out.chg c1 (by omega))
          have H1 := Lib.hid (H1.out.chg c1 (by omega))
          have H2 := Lib.hid (H2.out.chg c1 (by omega))
          have HR := Lib.hid (HR.out.chg c1 (.inr (by omega)))
          have HO := Lib.hid (HO.out.chg c1 (.inr (by omega)))
          have HS := Lib.hid (s1)
          have HC := Lib.hid (HC.out.trans c1)
          have HZ := Lib.hid (Nat.le_trans HZ.out c1.size)
          clear s1 c1
          have k2 := k1 (by omega)
          obtain ⟨kk, rfl⟩ : ∃ kk : Nat, k = (kk : Int) := ⟨k.toNat, by omega⟩
          have hkk : kk < m := by omega
          refine hK'.out _ _ HP.out.p2 (fun hHeld => ?_)
          clear hK'
          try simp only [Act.put, List.setIfInBounds_toArray, List.set_cons_zero, List.set_cons_succ]
          refine wpAnyH_ready (rs := [6]) (by kernel_rfl) (by simp) (AllReadyH.cons (i := 6) rfl (fun K' hK' => ?_) AllReadyH.nil)
          go_simp
          refine (l01DrawCard g w7 HS.out).mono ?_
          rintro e w8 ⟨x, rfl, _, s1, c1⟩
          have HD := Lib.hid (HD.out.chg c1 (by omega))
          have HP := Lib.hid (HP.out.chg c1 (by omega))
          have H1 := Lib.hid (H1.out.chg c1 (by omega))
          have H2 := Lib.hid (H2.out.chg c1 (by omega))
          have HR := Lib.hid (HR.out.chg c1 (.inr (by omega)))
          have HO := Lib.hid (HO.out.chg c1 (.inr (by omega)))
          have HS := Lib.hid (s1)
          have HC := Lib.hid (HC.out.trans c1)
          have HZ := Lib.hid (Nat.le_trans HZ.out c1.size)
          clear s1 c1
          refine hK'.out _ _ HP.out.p2 (fun hHeld => ?_)
          clear hK'
          try simp only [Act.put, List.setIfInBounds_toArray, List.set_cons_zero, List.set_cons_succ]
          refine take_slotC (i := 7) (d := some 44) (v := .pointer (some ⟨cb, kk, none⟩)) rfl (by kernel_rfl) (by kernel_rfl) (by kernel_rfl) (by kernel_rfl) (fun _ _ _ h => h) (.inl ⟨by kernel_rfl, fun V hV => by go_simp⟩) hHeld ?_
          try simp only [Act.put, List.setIfInBounds_toArray, List.set_cons_zero, List.set_cons_succ]
          refine wpAnyH_ready (rs := [8]) (by kernel_rfl) (by simp) (AllReadyH.cons (i := 8) rfl (fun K' hK' => ?_) AllReadyH.nil)
          have pst := (HO.out.cell8 (k := kk) hkk).1
          have fst := (HO.out.cell8 (k := kk) hkk).2
          have HO9 := Lib.hid (HO.out.set (k := kk) (by omega) (x))
          have cs1 := chg_set w8 cb (kk) (.int .i64 (x))
          have HD := Lib.hid (HD.out.chg cs1 (by omega))
          have HP := Lib.hid (HP.out.chg cs1 (by omega))
          have H1 := Lib.hid (H1.out.chg cs1 (by omega))
          have H2 := Lib.hid (H2.out.chg cs1 (by omega))
          have HR := Lib.hid (HR.out.chg cs1 (.inl (by omega)))
          have HS := Lib.hid (HS.out.chg cs1 (.inl (by omega)))
          have HC := Lib.hid (chg_to8 HC.out cs1 (by omega))
          have HZ := Lib.hid (Nat.le_trans HZ.out cs1.size)
          have HO := HO9
          clear HO9 cs1
          go_simp
          refine hK'.out _ _ HP.out.p2 (fun hHeld => ?_)
          clear hK' hHeld
          refine wpAnyH_done (by kernel_rfl) ?_ _
          generalize (w8.setCell ⟨cb, kk, none⟩ (.int .i64 (x))) = w9 at HD HP H1 H2 HR HO HS HC HZ ⊢
          go_wp2_with fail
          have HR := Lib.hid (HR.out.more (by omega) (by have := HZ.out; omega) : RdR w9 (w.heap.size + 2) w9.heap.size _ _ _)
          have HO := Lib.hid (HO.out.rd.more (by omega) (by have := HZ.out; omega) : Rd w9 (w.heap.size + 2) w9.heap.size _ _ _)
          have HZ := Lib.hid (Nat.le_refl w9.heap.size)
          have cd : Chg w9 w9.drew 0 0 := Chg.of_drew ⟨1, rfl⟩ 0 0
          have HD := Lib.hid (HD.out.chg cd (by omega))
          have HP := Lib.hid (HP.out.chg cd (by omega))
          have H1 := Lib.hid (H1.out.chg cd (by omega))
          have H2 := Lib.hid (H2.out.chg cd (by omega))
          have HR := Lib.hid (HR.out.chg cd (.inr (by omega)))
          have HO := Lib.hid (HO.out.chg cd (.inr (by omega)))
          have HS := Lib.hid (HS.out.still cd)
          have HC := Lib.hid (HC.out.trans (cd.any g (g + 1)))
          have HZ := Lib.hid (Nat.le_trans HZ.out cd.size)
          have hS0 := And.intro HD.out HP.out
          clear cd
          go_wp2_with fail
          refine wp_region_held_drew (S := fun V => SBox V 26 db #[.slice (some ⟨b, 0, none⟩) 4 c] ∧ SBox V 29 pb #[.int .i64 st, .int .i64 ld, .slice (some ⟨cb, 0, none⟩) m cp]) (by kernel_rfl) hS0 (fun hHeld => ?_)
          generalize w9.drew = V0 at HD HP H1 H2 HR HO HS HC HZ hHeld ⊢
          refine take_slotC (i := 0) (d := some 84) (v := .agg #[.slice (some ⟨b, 0, none⟩) 4 c]) rfl (by kernel_rfl) (by kernel_rfl) (by kernel_rfl) (by kernel_rfl) (fun _ _ _ h => h) (yieldsIf_load_mid (by kernel_rfl) 26 (.tmp 4) rfl db 0 rfl [.slice (some ⟨b, 0, none⟩) 4 c] _ (fun V hV => SBox.range hV.1) Try.underlying26 rfl (deal_infoLd _)) hHeld ?_
          try simp only [Act.put, List.setIfInBounds_toArray, List.set_cons_zero, List.set_cons_succ]
          refine take_slotC (i := 1) (d := some 85) (v := .agg #[.int .i64 st, .int .i64 ld, .slice (some ⟨cb, 0, none⟩) m cp]) rfl (by kernel_rfl) (by kernel_rfl) (by kernel_rfl) (by kernel_rfl) (fun _ _ _ h => h) (yieldsIf_load_mid (by kernel_rfl) 29 (.tmp 5) rfl pb 0 rfl [.int .i64 st, .int .i64 ld, .slice (some ⟨cb, 0, none⟩) m cp] _ (fun V hV => SBox.range hV.2) Try.underlying29 rfl (play_infoL _ _ _)) hHeld ?_
          try simp only [Act.put, List.setIfInBounds_toArray, List.set_cons_zero, List.set_cons_succ]
          refine wpAnyH_ready (rs := [2]) (by kernel_rfl) (by simp) (AllReadyH.cons (i := 2) rfl (fun K' hK' => ?_) AllReadyH.nil)
          have N1 := Lib.hid (setRow_heap V0 w.heap.size _ #[.slice (some ⟨b, 0, none⟩) 4 c] _ _ H1.out)
          have Cr := chgr8 V0 w.heap.size #[.slice (some ⟨b, 0, none⟩) 4 c]
          refine step_of_wp7 rfl (wp_store_row 26 _ _ rfl w.heap.size #[.slice (some ⟨b, 0, none⟩) 4 c] rfl rfl 26 #[.slice none 0 0] H1.out (deal_info8 _) rfl (deal_cells8 _ _ _) ?_)
          have HD := Lib.hid (HD.out.chg Cr (by omega))
          have HP := Lib.hid (HP.out.chg Cr (by omega))
          have HR := Lib.hid (HR.out.chg Cr (.inr (by omega)))
          have HO := Lib.hid (HO.out.chg Cr (.inr (by omega)))
          have HS := Lib.hid (HS.out.chg Cr (.inl (by omega)))
          have HC := Lib.hid (chg_to8 HC.out Cr (by omega))
          have HZ := Lib.hid (Nat.le_trans HZ.out Cr.size)
          have H2 := Lib.hid (H2.out.chg Cr (by omega))
          refine hK'.out _ _ (And.intro HD.out HP.out) (fun hHeld => ?_)
          clear hK' Cr
          generalize V0.setRow w.heap.size #[.slice (some ⟨b, 0, none⟩) 4 c] = V1 at N1 HD HP HR HO HS HC HZ H2 hHeld ⊢
          refine wpAnyH_ready (rs := [3]) (by kernel_rfl) (by simp) (AllReadyH.cons (i := 3) rfl (fun K' hK' => ?_) AllReadyH.nil)
          have N2 := Lib.hid (setRow_heap V1 (w.heap.size + 1) _ #[.int .i64 st, .int .i64 ld, .slice (some ⟨cb, 0, none⟩) m cp] _ _ H2.out)
          have Cr := chgr8 V1 (w.heap.size + 1) #[.int .i64 st, .int .i64 ld, .slice (some ⟨cb, 0, none⟩) m cp]
          refine step_of_wp7 rfl (wp_store_row 29 _ _ rfl (w.heap.size + 1) #[.int .i64 st, .int .i64 ld, .slice (some ⟨cb, 0, none⟩) m cp] rfl rfl 29 #[.int .i64 0, .int .i64 0, .slice none 0 0] H2.out (play_info _ _ _ _ _) rfl (play_cells _ _ _ _ _) ?_)
          have HD := Lib.hid (HD.out.chg Cr (by omega))
          have HP := Lib.hid (HP.out.chg Cr (by omega))
          have HR := Lib.hid (HR.out.chg Cr (.inr (by omega)))
          have HO := Lib.hid (HO.out.chg Cr (.inr (by omega)))
          have HS := Lib.hid (HS.out.chg Cr (.inl (by omega)))
          have HC := Lib.hid (chg_to8 HC.out Cr (by omega))
          have HZ := Lib.hid (Nat.le_trans HZ.out Cr.size)
          have N1 := Lib.hid (SBox.chg N1.out Cr (by omega))
          refine hK'.out _ _ (And.intro HD.out HP.out) (fun hHeld => ?_)
          clear hK' hHeld Cr
          generalize V1.setRow (w.heap.size + 1) #[.int .i64 st, .int .i64 ld, .slice (some ⟨cb, 0, none⟩) m cp] = V2 at N1 N2 HD HP HR HO HS HC HZ ⊢
          refine wpAnyH_done (by kernel_rfl) ?_ _
          go_wp2_with fail
          refine bodyPost_ret (v := .tuple #[.agg #[.slice (some ⟨b, 0, none⟩) 4 c], .agg #[.int .i64 st, .int .i64 ld, .slice (some ⟨cb, 0, none⟩) m cp]]) (results_rows8 Try.results63 _ _ w.heap.size (w.heap.size + 1) #[.slice (some ⟨b, 0, none⟩) 4 c] #[.int .i64 st, .int .i64 ld, .slice (some ⟨cb, 0, none⟩) m cp] _ _ rfl rfl N1.out N2.out Try.underlying26 rfl (deal_info8 _) Try.underlying29 rfl (play_info _ _ _ _ _)) rfl ?_
          exact ⟨some ⟨b, 0, none⟩, 4, c, zss, st, ld, some ⟨cb, 0, none⟩, m, cp, us.set kk x, rfl, hc4, H15.out, by omega, HMC.out, HNIL.out, HR.out.more (by omega) HZ.out, HO.out.more (by omega) HZ.out, HS.out, HC.out⟩
        · have hm0I : ¬ (0 : Int) < (m : Int) := by omega
          go_wp2_with fail
          have HR := Lib.hid (HR.out.more (by omega) (by have := HZ.out; omega) : RdR w6 (w.heap.size + 2) w6.heap.size _ _ _)
          have HO := Lib.hid (HO.out.rd.more (by omega) (by have := HZ.out; omega) : Rd w6 (w.heap.size + 2) w6.heap.size _ _ _)
          have HZ := Lib.hid (Nat.le_refl w6.heap.size)
          have cd : Chg w6 w6.drew 0 0 := Chg.of_drew ⟨1, rfl⟩ 0 0
          have HD := Lib.hid (HD.out.chg cd (by omega))
          have HP := Lib.hid (HP.out.chg cd (by omega))
          have H1 := Lib.hid (H1.out.chg cd (by omega))
          have H2 := Lib.hid (H2.out.chg cd (by omega))
          have HR := Lib.hid (HR.out.chg cd (.inr (by omega)))
          have HO := Lib.hid (HO.out.chg cd (.inr (by omega)))
          have HS := Lib.hid (HS.out.still cd)
          have HC := Lib.hid (HC.out.trans (cd.any g (g + 1)))
          have HZ := Lib.hid (Nat.le_trans HZ.out cd.size)
          have hS0 := And.intro HD.out HP.out
          clear cd
          go_wp2_with fail
          refine wp_region_held_drew (S := fun V => SBox V 26 db #[.slice (some ⟨b, 0, none⟩) 4 c] ∧ SBox V 29 pb #[.int .i64 st, .int .i64 ld, .slice A m cp]) (by kernel_rfl) hS0 (fun hHeld => ?_)
          generalize w6.drew = V0 at HD HP H1 H2 HR HO HS HC HZ hHeld ⊢
          refine take_slotC (i := 0) (d := some 84) (v := .agg #[.slice (some ⟨b, 0, none⟩) 4 c]) rfl (by kernel_rfl) (by kernel_rfl) (by kernel_rfl) (by kernel_rfl) (fun _ _ _ h => h) (yieldsIf_load_mid (by kernel_rfl) 26 (.tmp 4) rfl db 0 rfl [.slice (some ⟨b, 0, none⟩) 4 c] _ (fun V hV => SBox.range hV.1) Try.underlying26 rfl (deal_infoLd _)) hHeld ?_
          try simp only [Act.put, List.setIfInBounds_toArray, List.set_cons_zero, List.set_cons_succ]
          refine take_slotC (i := 1) (d := some 85) (v := .agg #[.int .i64 st, .int .i64 ld, .slice A m cp]) rfl (by kernel_rfl) (by kernel_rfl) (by kernel_rfl) (by kernel_rfl) (fun _ _ _ h => h) (yieldsIf_load_mid (by kernel_rfl) 29 (.tmp 5) rfl pb 0 rfl [.int .i64 st, .int .i64 ld, .slice A m cp] _ (fun V hV => SBox.range hV.2) Try.underlying29 rfl (play_infoL _ _ _)) hHeld ?_
          try simp only [Act.put, List.setIfInBounds_toArray, List.set_cons_zero, List.set_cons_succ]
          refine wpAnyH_ready (rs := [2]) (by kernel_rfl) (by simp) (AllReadyH.cons (i := 2) rfl (fun K' hK' => ?_) AllReadyH.nil)
          have N1 := Lib.hid (setRow_heap V0 w.heap.size _ #[.slice (some ⟨b, 0, none⟩) 4 c] _ _ H1.out)
          have Cr := chgr8 V0 w.heap.size #[.slice (some ⟨b, 0, none⟩) 4 c]
          refine step_of_wp7 rfl (wp_store_row 26 _ _ rfl w.heap.size #[.slice (some ⟨b, 0, none⟩) 4 c] rfl rfl 26 #[.slice none 0 0] H1.out (deal_info8 _) rfl (deal_cells8 _ _ _) ?_)
          have HD := Lib.hid (HD.out.chg Cr (by omega))
          have HP := Lib.hid (HP.out.chg Cr (by omega))
          have HR := Lib.hid (HR.out.chg Cr (.inr (by omega)))
          have HO := Lib.hid (HO.out.chg Cr (.inr (by omega)))
          have HS := Lib.hid (HS.out.chg Cr (.inl (by omega)))
          have HC := Lib.hid (chg_to8 HC.out Cr (by omega))
          have HZ := Lib.hid (Nat.le_trans HZ.out Cr.size)
          have H2 := Lib.hid (H2.out.chg Cr (by omega))
          refine hK'.out _ _ (And.intro HD.out HP.out) (fun hHeld => ?_)
          clear hK' Cr
          generalize V0.setRow w.heap.size #[.slice (some ⟨b, 0, none⟩) 4 c] = V1 at N1 HD HP HR HO HS HC HZ H2 hHeld ⊢
          refine wpAnyH_ready (rs := [3]) (by kernel_rfl) (by simp) (AllReadyH.cons (i := 3) rfl (fun K' hK' => ?_) AllReadyH.nil)
          have N2 := Lib.hid (setRow_heap V1 (w.heap.size + 1) _ #[.int .i64 st, .int .i64 ld, .slice A m cp] _ _ H2.out)
          have Cr := chgr8 V1 (w.heap.size + 1) #[.int .i64 st, .int .i64 ld, .slice A m cp]
          refine step_of_wp7 rfl (wp_store_row 29 _ _ rfl (w.heap.size + 1) #[.int .i64 st, .int .i64 ld, .slice A m cp] rfl rfl 29 #[.int .i64 0, .int .i64 0, .slice none 0 0] H2.out (play_info _ _ _ _ _) rfl (play_cells _ _ _ _ _) ?_)
          have HD := Lib.hid (HD.out.chg Cr (by omega))
          have HP := Lib.hid (HP.out.chg Cr (by omega))
          have HR := Lib.hid (HR.out.chg Cr (.inr (by omega)))
          have HO := Lib.hid (HO.out.chg Cr (.inr (by omega)))
          have HS := Lib.hid (HS.out.chg Cr (.inl (by omega)))
          have HC := Lib.hid (chg_to8 HC.out Cr (by omega))
          have HZ := Lib.hid (Nat.le_trans HZ.out Cr.size)
          have N1 := Lib.hid (SBox.chg N1.out Cr (by omega))
          refine hK'.out _ _ (And.intro HD.out HP.out) (fun hHeld => ?_)
          clear hK' hHeld Cr
          generalize V1.setRow (w.heap.size + 1) #[.int .i64 st, .int .i64 ld, .slice A m cp] = V2 at N1 N2 HD HP HR HO HS HC HZ ⊢
          refine wpAnyH_done (by kernel_rfl) ?_ _
          go_wp2_with fail
          refine bodyPost_ret (v := .tuple #[.agg #[.slice (some ⟨b, 0, none⟩) 4 c], .agg #[.int .i64 st, .int .i64 ld, .slice A m cp]]) (results_rows8 Try.results63 _ _ w.heap.size (w.heap.size + 1) #[.slice (some ⟨b, 0, none⟩) 4 c] #[.int .i64 st, .int .i64 ld, .slice A m cp] _ _ rfl rfl N1.out N2.out Try.underlying26 rfl (deal_info8 _) Try.underlying29 rfl (play_info _ _ _ _ _)) rfl ?_
          exact ⟨some ⟨b, 0, none⟩, 4, c, zss, st, ld, A, m, cp, us, rfl, hc4, H15.out, by omega, HMC.out, HNIL.out, HR.out.more (by omega) HZ.out, HO.out.more (by omega) HZ.out, HS.out, HC.out⟩
      · skip
        by_cases p3 : r = 3
        · subst p3
          go_wp2_with fail
          have cd : Chg w6 w6.drew 0 0 := Chg.of_drew ⟨1, rfl⟩ 0 0
          have HD := Lib.hid (HD.out.chg cd (by omega))
          have HP := Lib.hid (HP.out.chg cd (by omega))
          have H1 := Lib.hid (H1.out.chg cd (by omega))
          have H2 := Lib.hid (H2.out.chg cd (by omega))
          have HR := Lib.hid (HR.out.chg cd (.inr (by omega)))
          have HO := Lib.hid (HO.out.chg cd (.inr (by omega)))
          have HS := Lib.hid (HS.out.still cd)
          have HC := Lib.hid (HC.out.trans (cd.any g (g + 1)))
          have HZ := Lib.hid (Nat.le_trans HZ.out cd.size)
          clear cd
          refine wp_region_held_drew (S := fun _ => True) (by kernel_rfl) trivial (fun hHeld => ?_)
          generalize w6.drew = V0 at HD HP H1 H2 HR HO HS HC HZ hHeld ⊢
          refine take_slotC (i := 1) (d := some 48) (v := .pointer (some ⟨g, 0, none⟩)) rfl (by kernel_rfl) (by kernel_rfl) (by kernel_rfl) (by kernel_rfl) (fun _ _ _ h => h) (.inl ⟨by kernel_rfl, fun V hV => by go_simp⟩) hHeld ?_
          try simp only [Act.put, List.setIfInBounds_toArray, List.set_cons_zero, List.set_cons_succ]
          refine wpAnyH_ready (rs := [0, 2]) (by kernel_rfl) (by simp) (AllReadyH.cons (i := 0) rfl (fun K' hK' => ?first) (AllReadyH.cons (i := 2) rfl (fun K' hK' => ?second) AllReadyH.nil))
          case' first =>
            refine step_of_wp7 rfl (wp_load_row 29 _ rfl pb rfl 29 #[.int .i64 st, .int .i64 ld, .slice A m cp] (0, 0) _ HP.out Try.underlying29 rfl (play_info _ _ _ _ _) ?_)
            refine hK'.out _ _ hHeld (fun hHeld => ?_)
            clear hK'
            try simp only [Act.put, List.setIfInBounds_toArray]
            refine wpAnyH_ready (rs := [2]) (by kernel_rfl) (by simp) (AllReadyH.cons (i := 2) rfl (fun K' hK' => ?_) AllReadyH.nil)
            go_simp
            refine (l01DrawCard g V0 HS.out).mono ?_
            rintro e w7 ⟨x, rfl, _, s1, c1⟩
            have HD := Lib.hid (HD.out.chg c1 (by omega))
            have HP := Lib.hid (HP.out.chg c1 (by omega))
            have H1 := Lib.hid (H1.out.chg c1 (by omega))
            have H2 := Lib.hid (H2.out.chg c1 (by omega))
            have HR := Lib.hid (HR.out.chg c1 (.inr (by omega)))
            have HO := Lib.hid (HO.out.chg c1 (.inr (by omega)))
            have HS := Lib.hid (s1)
            have HC := Lib.hid (HC.out.trans c1)
            have HZ := Lib.hid (Nat.le_trans HZ.out c1.size)
            clear s1 c1
            refine hK'.out _ _ trivial (fun hHeld => ?_)
            clear hK'
            try simp only [Act.put, List.setIfInBounds_toArray]
            refine wpAnyH_ready (rs := [3]) (by kernel_rfl) (by simp) (AllReadyH.cons (i := 3) rfl (fun K' hK' => ?_) AllReadyH.nil)
            go_simp
            refine (l08Add st ld A m cp us x w7 (HO.out.rd.more (Nat.zero_le _) (by have := HZ.out; omega)) (by omega) HNIL.out).mono ?_
            rintro e w8 ⟨u7, rfl, o7, b7⟩
            obtain ⟨A6, c6, hu6, hc6, hpl6, how6⟩ := o7.form
            have hm6 : (us ++ [x]).length = m + 1 := by rw [List.length_append, HO.out.1]; rfl
            rw [hm6] at hu6 hc6 how6
            subst hu6
            have k7 := Chg.of_below b7 0 0
            have hz7 : pb < w7.heap.size := by have := HZ.out; have := HZ0.out; omega
            have HD := Lib.hid (HD.out.chg k7 (by omega))
            have HP := Lib.hid (HP.out.chg k7 (by omega))
            have H1 := Lib.hid (H1.out.chg k7 (by omega))
            have H2 := Lib.hid (H2.out.chg k7 (by omega))
            have HR := Lib.hid (HR.out.chg k7 (.inr (by omega)))
            have HO := Lib.hid (HO.out.chg k7 (.inr (by omega)))
            have HS := Lib.hid (HS.out.still k7)
            have HC := Lib.hid (HC.out.trans (k7.any g (g + 1)))
            have HZ := Lib.hid (Nat.le_trans HZ.out k7.size)
            clear o7 b7 k7
            refine hK'.out _ _ trivial (fun hHeld => ?_)
            clear hK'
            try simp only [Act.put, List.setIfInBounds_toArray]
            refine wpAnyH_ready (rs := [4]) (by kernel_rfl) (by simp) (AllReadyH.cons (i := 4) rfl (fun K' hK' => ?_) AllReadyH.nil)
            have HP9 := Lib.hid (show SBox _ _ _ _ from setRow_heap w8 pb _ #[.int .i64 st, .int .i64 ld, .slice A6 (m + 1) c6] _ _ HP.out)
            have Cr := chgr8 w8 pb #[.int .i64 st, .int .i64 ld, .slice A6 (m + 1) c6]
            refine step_of_wp7 rfl (wp_store_row 29 _ _ rfl pb #[.int .i64 st, .int .i64 ld, .slice A6 (m + 1) c6] rfl rfl 29 #[.int .i64 st, .int .i64 ld, .slice A m cp] HP.out (play_info _ _ _ _ _) rfl (play_cells _ _ _ _ _) ?_)
            have hO9 := (how6.rd.chg Cr (.inr (by omega))).more (show w.heap.size + 2 ≤ w7.heap.size by omega) Cr.size
            clear how6
            have HD := Lib.hid (HD.out.chg Cr (by omega))
            have H1 := Lib.hid (H1.out.chg Cr (by omega))
            have H2 := Lib.hid (H2.out.chg Cr (by omega))
            have HR := Lib.hid (HR.out.chg Cr (.inl (by omega)))
            have HS := Lib.hid (HS.out.chg Cr (.inl (by omega)))
            have HC := Lib.hid (chg_to8 HC.out Cr (by omega))
            have HZ := Lib.hid (Nat.le_trans HZ.out Cr.size)
            have HO := Lib.hid hO9
            have HP := HP9
            clear HP9 hO9 Cr
            refine hK'.out _ _ trivial (fun hHeld => ?_)
            clear hK' hHeld
            refine wpAnyH_done (by kernel_rfl) ?_ _
            generalize (w8.setRow pb #[.int .i64 st, .int .i64 ld, .slice A6 (m + 1) c6]) = w9 at HD HP H1 H2 HR HO HS HC HZ ⊢
            have hn6 := Lib.hid (plain_nil hpl6)
            go_wp2_with fail
            have HR := Lib.hid (HR.out.more (by omega) (by have := HZ.out; omega) : RdR w9 (w.heap.size + 2) w9.heap.size _ _ _)
            have HO := Lib.hid (HO.out.more (by omega) (by have := HZ.out; omega) : Rd w9 (w.heap.size + 2) w9.heap.size _ _ _)
            have HZ := Lib.hid (Nat.le_refl w9.heap.size)
            have cd : Chg w9 w9.drew 0 0 := Chg.of_drew ⟨1, rfl⟩ 0 0
            have HD := Lib.hid (HD.out.chg cd (by omega))
            have HP := Lib.hid (HP.out.chg cd (by omega))
            have H1 := Lib.hid (H1.out.chg cd (by omega))
            have H2 := Lib.hid (H2.out.chg cd (by omega))
            have HR := Lib.hid (HR.out.chg cd (.inr (by omega)))
            have HO := Lib.hid (HO.out.chg cd (.inr (by omega)))
            have HS := Lib.hid (HS.out.still cd)
            have HC := Lib.hid (HC.out.trans (cd.any g (g + 1)))
            have HZ := Lib.hid (Nat.le_trans HZ.out cd.size)
            have hS0 := And.intro HD.out HP.out
            clear cd
            go_wp2_with fail
            refine wp_region_held_drew (S := fun V => SBox V 26 db #[.slice (some ⟨b, 0, none⟩) 4 c] ∧ SBox V 29 pb #[.int .i64 st, .int .i64 ld, .slice A6 (m + 1) c6]) (by kernel_rfl) hS0 (fun hHeld => ?_)
            generalize w9.drew = V0 at HD HP H1 H2 HR HO HS HC HZ hHeld ⊢
            refine take_slotC (i := 0) (d := some 84) (v := .agg #[.slice (some ⟨b, 0, none⟩) 4 c]) rfl (by kernel_rfl) (by kernel_rfl) (by kernel_rfl) (by kernel_rfl) (fun _ _ _ h => h) (yieldsIf_load_mid (by kernel_rfl) 26 (.tmp 4) rfl db 0 rfl [.slice (some ⟨b, 0, none⟩) 4 c] _ (fun V hV => SBox.range hV.1) Try.underlying26 rfl (deal_infoLd _)) hHeld ?_
            try simp only [Act.put, List.setIfInBounds_toArray]
            refine take_slotC (i := 1) (d := some 85) (v := .agg #[.int .i64 st, .int .i64 ld, .slice A6 (m + 1) c6]) rfl (by kernel_rfl) (by kernel_rfl) (by kernel_rfl) (by kernel_rfl) (fun _ _ _ h => h) (yieldsIf_load_mid (by kernel_rfl) 29 (.tmp 5) rfl pb 0 rfl [.int .i64 st, .int .i64 ld, .slice A6 (m + 1) c6] _ (fun V hV => SBox.range hV.2) Try.underlying29 rfl (play_infoL _ _ _)) hHeld ?_
            try simp only [Act.put]
            refine wpAnyH_ready (rs := [2]) (by kernel_rfl) (by simp) (AllReadyH.cons (i := 2) rfl (fun K' hK' => ?_) AllReadyH.nil)
            have N1 := Lib.hid (setRow_heap V0 w.heap.size _ #[.slice (some ⟨b, 0, none⟩) 4 c] _ _ H1.out)
            have Cr := chgr8 V0 w.heap.size #[.slice (some ⟨b, 0, none⟩) 4 c]
            refine step_of_wp7 rfl (wp_store_row 26 _ _ rfl w.heap.size #[.slice (some ⟨b, 0, none⟩) 4 c] rfl rfl 26 #[.slice none 0 0] H1.out (deal_info8 _) rfl (deal_cells8 _ _ _) ?_)
            have HD := Lib.hid (HD.out.chg Cr (by omega))
            have HP := Lib.hid (HP.out.chg Cr (by omega))
            have HR := Lib.hid (HR.out.chg Cr (.inr (by omega)))
            have HO := Lib.hid (HO.out.chg Cr (.inr (by omega)))
            have HS := Lib.hid (HS.out.chg Cr (.inl (by omega)))
            have HC := Lib.hid (chg_to8 HC.out Cr (by omega))
            have HZ := Lib.hid (Nat.le_trans HZ.out Cr.size)
            have H2 := Lib.hid (H2.out.chg Cr (by omega))
            refine hK'.out _ _ (And.intro HD.out HP.out) (fun hHeld => ?_)
            clear hK' Cr
            generalize V0.setRow w.heap.size #[.slice (some ⟨b, 0, none⟩) 4 c] = V1 at N1 HD HP HR HO HS HC HZ H2 hHeld ⊢
            refine wpAnyH_ready (rs := [3]) (by kernel_rfl) (by simp) (AllReadyH.cons (i := 3) rfl (fun K' hK' => ?_) AllReadyH.nil)
            have N2 := Lib.hid (setRow_heap V1 (w.heap.size + 1) _ #[.int .i64 st, .int .i64 ld, .slice A6 (m + 1) c6] _ _ H2.out)
            have Cr := chgr8 V1 (w.heap.size + 1) #[.int .i64 st, .int .i64 ld, .slice A6 (m + 1) c6]
            refine step_of_wp7 rfl (wp_store_row 29 _ _ rfl (w.heap.size + 1) #[.int .i64 st, .int .i64 ld, .slice A6 (m + 1) c6] rfl rfl 29 #[.int .i64 0, .int .i64 0, .slice none 0 0] H2.out (play_info _ _ _ _ _) rfl (play_cells _ _ _ _ _) ?_)
            have HD := Lib.hid (HD.out.chg Cr (by omega))
            have HP := Lib.hid (HP.out.chg Cr (by omega))
            have HR := Lib.hid (HR.out.chg Cr (.inr (by omega)))
            have HO := Lib.hid (HO.out.chg Cr (.inr (by omega)))
            have HS := Lib.hid (HS.out.chg Cr (.inl (by omega)))
            have HC := Lib.hid (chg_to8 HC.out Cr (by omega))
            have HZ := Lib.hid (Nat.le_trans HZ.out Cr.size)
            have N1 := Lib.hid (SBox.chg N1.out Cr (by omega))
            refine hK'.out _ _ (And.intro HD.out HP.out) (fun hHeld => ?_)
            clear hK' hHeld Cr
            generalize V1.setRow (w.heap.size + 1) #[.int .i64 st, .int .i64 ld, .slice A6 (m + 1) c6] = V2 at N1 N2 HD HP HR HO HS HC HZ ⊢
            refine wpAnyH_done (by kernel_rfl) ?_ _
            go_wp2_with fail
            refine bodyPost_ret (v := .tuple #[.agg #[.slice (some ⟨b, 0, none⟩) 4 c], .agg #[.int .i64 st, .int .i64 ld, .slice A6 (m + 1) c6]]) (results_rows8 Try.results63 _ _ w.heap.size (w.heap.size + 1) #[.slice (some ⟨b, 0, none⟩) 4 c] #[.int .i64 st, .int .i64 ld, .slice A6 (m + 1) c6] _ _ rfl rfl N1.out N2.out Try.underlying26 rfl (deal_info8 _) Try.underlying29 rfl (play_info _ _ _ _ _)) rfl ?_
            exact ⟨some ⟨b, 0, none⟩, 4, c, zss, st, ld, A6, m + 1, c6, us ++ [x], rfl, hc4, H15.out, by omega, hc6, hn6.out, HR.out.more (by omega) HZ.out, HO.out.more (by omega) HZ.out, HS.out, HC.out⟩
          case' second =>
            go_simp
            refine (l01DrawCard g V0 HS.out).mono ?_
            rintro e w7 ⟨x, rfl, _, s1, c1⟩
            have HD := Lib.hid (HD.out.chg c1 (by omega))
            have HP := Lib.hid (HP.out.chg c1 (by omega))
            have H1 := Lib.hid (H1.out.chg c1 (by omega))
            have H2 := Lib.hid (H2.out.chg c1 (by omega))
            have HR := Lib.hid (HR.out.chg c1 (.inr (by omega)))
            have HO := Lib.hid (HO.out.chg c1 (.inr (by omega)))
            have HS := Lib.hid (s1)
            have HC := Lib.hid (HC.out.trans c1)
            have HZ := Lib.hid (Nat.le_trans HZ.out c1.size)
            clear s1 c1
            refine hK'.out _ _ trivial (fun hHeld => ?_)
            clear hK'
            try simp only [Act.put, List.setIfInBounds_toArray]
            refine wpAnyH_ready (rs := [0]) (by kernel_rfl) (by simp) (AllReadyH.cons (i := 0) rfl (fun K' hK' => ?_) AllReadyH.nil)
            refine step_of_wp7 rfl (wp_load_row 29 _ rfl pb rfl 29 #[.int .i64 st, .int .i64 ld, .slice A m cp] (0, 0) _ HP.out Try.underlying29 rfl (play_info _ _ _ _ _) ?_)
            refine hK'.out _ _ hHeld (fun hHeld => ?_)
            clear hK'
            try simp only [Act.put, List.setIfInBounds_toArray]
            refine wpAnyH_ready (rs := [3]) (by kernel_rfl) (by simp) (AllReadyH.cons (i := 3) rfl (fun K' hK' => ?_) AllReadyH.nil)
            go_simp
            refine (l08Add st ld A m cp us x w7 (HO.out.rd.more (Nat.zero_le _) (by have := HZ.out; omega)) (by omega) HNIL.out).mono ?_
            rintro e w8 ⟨u7, rfl, o7, b7⟩
            obtain ⟨A6, c6, hu6, hc6, hpl6, how6⟩ := o7.form
            have hm6 : (us ++ [x]).length = m + 1 := by rw [List.length_append, HO.out.1]; rfl
            rw [hm6] at hu6 hc6 how6
            subst hu6
            have k7 := Chg.of_below b7 0 0
            have hz7 : pb < w7.heap.size := by have := HZ.out; have := HZ0.out; omega
            have HD := Lib.hid (HD.out.chg k7 (by omega))
            have HP := Lib.hid (HP.out.chg k7 (by omega))
            have H1 := Lib.hid (H1.out.chg k7 (by omega))
            have H2 := Lib.hid (H2.out.chg k7 (by omega))
            have HR := Lib.hid (HR.out.chg k7 (.inr (by omega)))
            have HO := Lib.hid (HO.out.chg k7 (.inr (by omega)))
            have HS := Lib.hid (HS.out.still k7)
            have HC := Lib.hid (HC.out.trans (k7.any g (g + 1)))
            have HZ := Lib.hid (Nat.le_trans HZ.out k7.size)
            clear o7 b7 k7
            refine hK'.out _ _ trivial (fun hHeld => ?_)
            clear hK'
            try simp only [Act.put, List.setIfInBounds_toArray]
            refine wpAnyH_ready (rs := [4]) (by kernel_rfl) (by simp) (AllReadyH.cons (i := 4) rfl (fun K' hK' => ?_) AllReadyH.nil)
            have HP9 := Lib.hid (show SBox _ _ _ _ from setRow_heap w8 pb _ #[.int .i64 st, .int .i64 ld, .slice A6 (m + 1) c6] _ _ HP.out)
            have Cr := chgr8 w8 pb #[.int .i64 st, .int .i64 ld, .slice A6 (m + 1) c6]
            refine step_of_wp7 rfl (wp_store_row 29 _ _ rfl pb #[.int .i64 st, .int .i64 ld, .slice A6 (m + 1) c6] rfl rfl 29 #[.int .i64 st, .int .i64 ld, .slice A m cp] HP.out (play_info _ _ _ _ _) rfl (play_cells _ _ _ _ _) ?_)
            have hO9 := (how6.rd.chg Cr (.inr (by omega))).more (show w.heap.size + 2 ≤ w7.heap.size by omega) Cr.size
            clear how6
            have HD := Lib.hid (HD.out.chg Cr (by omega))
            have H1 := Lib.hid (H1.out.chg Cr (by omega))
            have H2 := Lib.hid (H2.out.chg Cr (by omega))
            have HR := Lib.hid (HR.out.chg Cr (.inl (by omega)))
            have HS := Lib.hid (HS.out.chg Cr (.inl (by omega)))
            have HC := Lib.hid (chg_to8 HC.out Cr (by omega))
            have HZ := Lib.hid (Nat.le_trans HZ.out Cr.size)
            have HO := Lib.hid hO9
            have HP := HP9
            clear HP9 hO9 Cr
            refine hK'.out _ _ trivial (fun hHeld => ?_)
            clear hK' hHeld
            refine wpAnyH_done (by kernel_rfl) ?_ _
            generalize (w8.setRow pb #[.int .i64 st, .int .i64 ld, .slice A6 (m + 1) c6]) = w9 at HD HP H1 H2 HR HO HS HC HZ ⊢
            have hn6 := Lib.hid (plain_nil hpl6)
            go_wp2_with fail
            have HR := Lib.hid (HR.out.more (by omega) (by have := HZ.out; omega) : RdR w9 (w.heap.size + 2) w9.heap.size _ _ _)
            have HO := Lib.hid (HO.out.more (by omega) (by have := HZ.out; omega) : Rd w9 (w.heap.size + 2) w9.heap.size _ _ _)
            have HZ := Lib.hid (Nat.le_refl w9.heap.size)
            have cd : Chg w9 w9.drew 0 0 := Chg.of_drew ⟨1, rfl⟩ 0 0
            have HD := Lib.hid (HD.out.chg cd (by omega))
            have HP := Lib.hid (HP.out.chg cd (by omega))
            have H1 := Lib.hid (H1.out.chg cd (by omega))
            have H2 := Lib.hid (H2.out.chg cd (by omega))
            have HR := Lib.hid (HR.out.chg cd (.inr (by omega)))
            have HO := Lib.hid (HO.out.chg cd (.inr (by omega)))
            have HS := Lib.hid (HS.out.still cd)
            have HC := Lib.hid (HC.out.trans (cd.any g (g + 1)))
            have HZ := Lib.hid (Nat.le_trans HZ.out cd.size)
            have hS0 := And.intro HD.out HP.out
            clear cd
            go_wp2_with fail
            refine wp_region_held_drew (S := fun V => SBox V 26 db #[.slice (some ⟨b, 0, none⟩) 4 c] ∧ SBox V 29 pb #[.int .i64 st, .int .i64 ld, .slice A6 (m + 1) c6]) (by kernel_rfl) hS0 (fun hHeld => ?_)
            generalize w9.drew = V0 at HD HP H1 H2 HR HO HS HC HZ hHeld ⊢
            refine take_slotC (i := 0) (d := some 84) (v := .agg #[.slice (some ⟨b, 0, none⟩) 4 c]) rfl (by kernel_rfl) (by kernel_rfl) (by kernel_rfl) (by kernel_rfl) (fun _ _ _ h => h) (yieldsIf_load_mid (by kernel_rfl) 26 (.tmp 4) rfl db 0 rfl [.slice (some ⟨b, 0, none⟩) 4 c] _ (fun V hV => SBox.range hV.1) Try.underlying26 rfl (deal_infoLd _)) hHeld ?_
            try simp only [Act.put, List.setIfInBounds_toArray]
            refine take_slotC (i := 1) (d := some 85) (v := .agg #[.int .i64 st, .int .i64 ld, .slice A6 (m + 1) c6]) rfl (by kernel_rfl) (by kernel_rfl) (by kernel_rfl) (by kernel_rfl) (fun _ _ _ h => h) (yieldsIf_load_mid (by kernel_rfl) 29 (.tmp 5) rfl pb 0 rfl [.int .i64 st, .int .i64 ld, .slice A6 (m + 1) c6] _ (fun V hV => SBox.range hV.2) Try.underlying29 rfl (play_infoL _ _ _)) hHeld ?_
            try simp only [Act.put]
            refine wpAnyH_ready (rs := [2]) (by kernel_rfl) (by simp) (AllReadyH.cons (i := 2) rfl (fun K' hK' => ?_) AllReadyH.nil)
            have N1 := Lib.hid (setRow_heap V0 w.heap.size _ #[.slice (some ⟨b, 0, none⟩) 4 c] _ _ H1.out)
            have Cr := chgr8 V0 w.heap.size #[.slice (some ⟨b, 0, none⟩) 4 c]
            refine step_of_wp7 rfl (wp_store_row 26 _ _ rfl w.heap.size #[.slice (some ⟨b, 0, none⟩) 4 c] rfl rfl 26 #[.slice none 0 0] H1.out (deal_info8 _) rfl (deal_cells8 _ _ _) ?_)
            have HD := Lib.hid (HD.out.chg Cr (by omega))
            have HP := Lib.hid (HP.out.chg Cr (by omega))
            have HR := Lib.hid (HR.out.chg Cr (.inr (by omega)))
            have HO := Lib.hid (HO.out.chg Cr (.inr (by omega)))
            have HS := Lib.hid (HS.out.chg Cr (.inl (by omega)))
            have HC := Lib.hid (chg_to8 HC.out Cr (by omega))
            have HZ := Lib.hid (Nat.le_trans HZ.out Cr.size)
            have H2 := Lib.hid (H2.out.chg Cr (by omega))
            refine hK'.out _ _ (And.intro HD.out HP.out) (fun hHeld => ?_)
            clear hK' Cr
            generalize V0.setRow w.heap.size #[.slice (some ⟨b, 0, none⟩) 4 c] = V1 at N1 HD HP HR HO HS HC HZ H2 hHeld ⊢
            refine wpAnyH_ready (rs := [3]) (by kernel_rfl) (by simp) (AllReadyH.cons (i := 3) rfl (fun K' hK' => ?_) AllReadyH.nil)
            have N2 := Lib.hid (setRow_heap V1 (w.heap.size + 1) _ #[.int .i64 st, .int .i64 ld, .slice A6 (m + 1) c6] _ _ H2.out)
            have Cr := chgr8 V1 (w.heap.size + 1) #[.int .i64 st, .int .i64 ld, .slice A6 (m + 1) c6]
            refine step_of_wp7 rfl (wp_store_row 29 _ _ rfl (w.heap.size + 1) #[.int .i64 st, .int .i64 ld, .slice A6 (m + 1) c6] rfl rfl 29 #[.int .i64 0, .int .i64 0, .slice none 0 0] H2.out (play_info _ _ _ _ _) rfl (play_cells _ _ _ _ _) ?_)
            have HD := Lib.hid (HD.out.chg Cr (by omega))
            have HP := Lib.hid (HP.out.chg Cr (by omega))
            have HR := Lib.hid (HR.out.chg Cr (.inr (by omega)))
            have HO := Lib.hid (HO.out.chg Cr (.inr (by omega)))
            have HS := Lib.hid (HS.out.chg Cr (.inl (by omega)))
            have HC := Lib.hid (chg_to8 HC.out Cr (by omega))
            have HZ := Lib.hid (Nat.le_trans HZ.out Cr.size)
            have N1 := Lib.hid (SBox.chg N1.out Cr (by omega))
            refine hK'.out _ _ (And.intro HD.out HP.out) (fun hHeld => ?_)
            clear hK' hHeld Cr
            generalize V1.setRow (w.heap.size + 1) #[.int .i64 st, .int .i64 ld, .slice A6 (m + 1) c6] = V2 at N1 N2 HD HP HR HO HS HC HZ ⊢
            refine wpAnyH_done (by kernel_rfl) ?_ _
            go_wp2_with fail
            refine bodyPost_ret (v := .tuple #[.agg #[.slice (some ⟨b, 0, none⟩) 4 c], .agg #[.int .i64 st, .int .i64 ld, .slice A6 (m + 1) c6]]) (results_rows8 Try.results63 _ _ w.heap.size (w.heap.size + 1) #[.slice (some ⟨b, 0, none⟩) 4 c] #[.int .i64 st, .int .i64 ld, .slice A6 (m + 1) c6] _ _ rfl rfl N1.out N2.out Try.underlying26 rfl (deal_info8 _) Try.underlying29 rfl (play_info _ _ _ _ _)) rfl ?_
            exact ⟨some ⟨b, 0, none⟩, 4, c, zss, st, ld, A6, m + 1, c6, us ++ [x], rfl, hc4, H15.out, by omega, hc6, hn6.out, HR.out.more (by omega) HZ.out, HO.out.more (by omega) HZ.out, HS.out, HC.out⟩
        · skip
          by_cases p4 : r = 4
          · subst p4
            by_cases hm0 : 1 < m
            · have hm0I : (1 : Int) < (m : Int) := by omega
              have wm : IntKind.i64.wrap ((m : Int) - 1) = (m : Int) - 1 := IntWalk.i64_in _ (by omega)
              obtain ⟨cb, _, rfl, hcb1, hcb2, _, _⟩ := HO.out.2 (by omega)
              go_wp2_with fail
              refine (l01Next g ((m : Int) - 1) w6 HS.out (by omega)).mono ?_
              rintro e w7 ⟨k, rfl, ⟨k0, k1⟩, s1, c1⟩
              have HD := Lib.hid (HD.out.chg c1 (by omega))
              have HP := Lib.hid (HP.out.chg c1 (by omega))
              have H1 := Lib.hid (H1.out.chg c1 (by omega))
              have H2 := Lib.hid (H2.out.chg c1 (by omega))
              have HR := Lib.hid (HR.out.chg c1 (.inr (by omega)))
              have HO := Lib.hid (HO.out.chg c1 (.inr (by omega)))
              have HS := Lib.hid (s1)
              have HC := Lib.hid (HC.out.trans c1)
              have HZ := Lib.hid (Nat.le_trans HZ.out c1.size)
              clear s1 c1
              have k2 := k1 (by omega)
              obtain ⟨kk, rfl⟩ : ∃ kk : Nat, k = (kk : Int) := ⟨k.toNat, by omega⟩
              have hkk : kk + 1 < m := by omega
              have hkm : kk < m := by omega
              clear k0 k1 k2
              have wk : IntKind.i64.wrap ((kk : Int) + 1) = (kk : Int) + 1 := IntWalk.i64_in _ (by omega)
              have p2 := HP.out.p2
              have ck := (HO.out.cell8 (k := kk) hkm).1
              have cj := (HO.out.cell8 (k := kk + 1) hkk).1
              obtain ⟨x, hx⟩ : ∃ x, x = us.getD kk 0 := ⟨_, rfl⟩
              obtain ⟨y, hy⟩ : ∃ y, y = us.getD (kk + 1) 0 := ⟨_, rfl⟩
              rw [← hx] at ck
              rw [← hy] at cj
              have hy2 : (us.set kk y).getD (kk + 1) 0 = y := by rw [hy]; simp
              clear hx hy
              have hb1 : (0 : Int) ≤ (kk : Int) + 1 := by omega
              have hb2 : ¬ (m : Int) ≤ (kk : Int) + 1 := by omega
              have hS0 : w7.drew.cell? ⟨pb, 2, none⟩ = some (.slice (some ⟨cb, 0, none⟩) m cp) ∧ w7.drew.cell? ⟨cb, kk + 1, none⟩ = some (.int .i64 y) := ⟨p2, cj⟩
              go_wp2_with fail
              clear p2 ck cj
              have cd : Chg w7 w7.drew 0 0 := Chg.of_drew ⟨1, rfl⟩ 0 0
              have HD := Lib.hid (HD.out.chg cd (by omega))
              have HP := Lib.hid (HP.out.chg cd (by omega))
              have H1 := Lib.hid (H1.out.chg cd (by omega))
              have H2 := Lib.hid (H2.out.chg cd (by omega))
              have HR := Lib.hid (HR.out.chg cd (.inr (by omega)))
              have HO := Lib.hid (HO.out.chg cd (.inr (by omega)))
              have HS := Lib.hid (HS.out.still cd)
              have HC := Lib.hid (HC.out.trans (cd.any g (g + 1)))
              have HZ := Lib.hid (Nat.le_trans HZ.out cd.size)
              clear cd
              refine wp_region_held_drew (S := fun V => V.cell? ⟨pb, 2, none⟩ = some (.slice (some ⟨cb, 0, none⟩) m cp) ∧ V.cell? ⟨cb, kk + 1, none⟩ = some (.int .i64 y)) (by kernel_rfl) hS0 (fun hHeld => ?_)
              generalize w7.drew = V0 at HD HP H1 H2 HR HO HS HC HZ hHeld ⊢
              refine take_slotC (i := 0) (d := some 64) (v := .pointer (some ⟨pb, 2, none⟩)) rfl (by kernel_rfl) (by kernel_rfl) (by kernel_rfl) (by kernel_rfl) (fun _ _ _ h => h) (.inl ⟨by kernel_rfl, fun V hV => by obtain ⟨hV1, hV2⟩ := hV; go_simp⟩) hHeld ?_
              try simp only [Act.put, List.setIfInBounds_toArray, List.set_cons_zero, List.set_cons_succ]
              refine take_slotC (i := 1) (d := some 65) (v := .slice (some ⟨cb, 0, none⟩) m cp) rfl (by kernel_rfl) (by kernel_rfl) (by kernel_rfl) (by kernel_rfl) (fun _ _ _ h => h) (.inl ⟨by kernel_rfl, fun V hV => by obtain ⟨hV1, hV2⟩ := hV; go_simp⟩) hHeld ?_
              try simp only [Act.put, List.setIfInBounds_toArray, List.set_cons_zero, List.set_cons_succ]
              refine take_slotC (i := 2) (d := some 66) (v := .int .i64 (kk : Int)) rfl (by kernel_rfl) (by kernel_rfl) (by kernel_rfl) (by kernel_rfl) (fun _ _ _ h => h) (.inl ⟨by kernel_rfl, fun V hV => by obtain ⟨hV1, hV2⟩ := hV; go_simp⟩) hHeld ?_
              try simp only [Act.put, List.setIfInBounds_toArray, List.set_cons_zero, List.set_cons_succ]
              refine take_slotC (i := 3) (d := some 67) (v := .pointer (some ⟨pb, 2, none⟩)) rfl (by kernel_rfl) (by kernel_rfl) (by kernel_rfl) (by kernel_rfl) (fun _ _ _ h => h) (.inl ⟨by kernel_rfl, fun V hV => by obtain ⟨hV1, hV2⟩ := hV; go_simp⟩) hHeld ?_
              try simp only [Act.put, List.setIfInBounds_toArray, List.set_cons_zero, List.set_cons_succ]
              refine take_slotC (i := 4) (d := some 68) (v := .slice (some ⟨cb, 0, none⟩) m cp) rfl (by kernel_rfl) (by kernel_rfl) (by kernel_rfl) (by kernel_rfl) (fun _ _ _ h => h) (.inl ⟨by kernel_rfl, fun V hV => by obtain ⟨hV1, hV2⟩ := hV; go_simp⟩) hHeld ?_
              try simp only [Act.put, List.setIfInBounds_toArray, List.set_cons_zero, List.set_cons_succ]
              refine take_slotC (i := 5) (d := some 69) (v := .int .i64 (kk : Int)) rfl (by kernel_rfl) (by kernel_rfl) (by kernel_rfl) (by kernel_rfl) (fun _ _ _ h => h) (.inl ⟨by kernel_rfl, fun V hV => by obtain ⟨hV1, hV2⟩ := hV; go_simp⟩) hHeld ?_
              try simp only [Act.put, List.setIfInBounds_toArray, List.set_cons_zero, List.set_cons_succ]
              refine take_slotC (i := 6) (d := some 70) (v := .int .i64 ((kk : Int) + 1)) rfl (by kernel_rfl) (by kernel_rfl) (by kernel_rfl) (by kernel_rfl) (fun _ _ _ h => h) (.inl ⟨by kernel_rfl, fun V hV => by obtain ⟨hV1, hV2⟩ := hV; go_simp⟩) hHeld ?_
              try simp only [Act.put, List.setIfInBounds_toArray, List.set_cons_zero, List.set_cons_succ]
              refine take_slotC (i := 7) (d := some 71) (v := .pointer (some ⟨cb, kk + 1, none⟩)) rfl (by kernel_rfl) (by kernel_rfl) (by kernel_rfl) (by kernel_rfl) (fun _ _ _ h => h) (.inl ⟨by kernel_rfl, fun V hV => by obtain ⟨hV1, hV2⟩ := hV; go_simp⟩) hHeld ?_
              try simp only [Act.put, List.setIfInBounds_toArray, List.set_cons_zero, List.set_cons_succ]
              refine take_slotC (i := 8) (d := some 72) (v := .int .i64 y) rfl (by kernel_rfl) (by kernel_rfl) (by kernel_rfl) (by kernel_rfl) (fun _ _ _ h => h) (.inl ⟨by kernel_rfl, fun V hV => by obtain ⟨hV1, hV2⟩ := hV; go_simp⟩) hHeld ?_
              try simp only [Act.put, List.setIfInBounds_toArray, List.set_cons_zero, List.set_cons_succ]
              refine take_slotC (i := 9) (d := some 73) (v := .pointer (some ⟨cb, kk, none⟩)) rfl (by kernel_rfl) (by kernel_rfl) (by kernel_rfl) (by kernel_rfl) (fun _ _ _ h => h) (.inl ⟨by kernel_rfl, fun V hV => by obtain ⟨hV1, hV2⟩ := hV; go_simp⟩) hHeld ?_
              try simp only [Act.put, List.setIfInBounds_toArray, List.set_cons_zero, List.set_cons_succ]
              refine wpAnyH_ready (rs := [10]) (by kernel_rfl) (by simp) (AllReadyH.cons (i := 10) rfl (fun K' hK' => ?_) AllReadyH.nil)
              have pst := (HO.out.cell8 (k := kk) hkm).1
              have fst := (HO.out.cell8 (k := kk) hkm).2
              have HO9 := Lib.hid (HO.out.set (k := kk) (by omega) (y))
              have cs1 := chg_set V0 cb (kk) (.int .i64 (y))
              have HD := Lib.hid (HD.out.chg cs1 (by omega))
              have HP := Lib.hid (HP.out.chg cs1 (by omega))
              have H1 := Lib.hid (H1.out.chg cs1 (by omega))
              have H2 := Lib.hid (H2.out.chg cs1 (by omega))
              have HR := Lib.hid (HR.out.chg cs1 (.inl (by omega)))
              have HS := Lib.hid (HS.out.chg cs1 (.inl (by omega)))
              have HC := Lib.hid (chg_to8 HC.out cs1 (by omega))
              have HZ := Lib.hid (Nat.le_trans HZ.out cs1.size)
              have HO := HO9
              clear HO9 cs1
              go_simp
              have hS1 : (V0.setCell ⟨cb, kk, none⟩ (.int .i64 (y))).cell? ⟨pb, 2, none⟩ = some (.slice (some ⟨cb, 0, none⟩) m cp) ∧ (V0.setCell ⟨cb, kk, none⟩ (.int .i64 (y))).cell? ⟨cb, kk + 1, none⟩ = some (.int .i64 y) := ⟨HP.out.p2, by rw [(HO.out.cell8 (k := kk + 1) hkk).1, hy2]⟩
              refine hK'.out _ _ hS1 (fun hHeld => ?_)
              clear hK' hHeld hS1
              refine wpAnyH_done (by kernel_rfl) ?_ _
              generalize (V0.setCell ⟨cb, kk, none⟩ (.int .i64 (y))) = w8 at HD HP H1 H2 HR HO HS HC HZ ⊢
              have p2 := HP.out.p2
              have pst := (HO.out.cell8 (k := kk + 1) hkk).1
              have fst := (HO.out.cell8 (k := kk + 1) hkk).2
              have HO9 := Lib.hid (HO.out.set (k := (kk + 1)) (by omega) (x))
              have cs1 := chg_set w8 cb ((kk + 1)) (.int .i64 (x))
              have HD := Lib.hid (HD.out.chg cs1 (by omega))
              have HP := Lib.hid (HP.out.chg cs1 (by omega))
              have H1 := Lib.hid (H1.out.chg cs1 (by omega))
              have H2 := Lib.hid (H2.out.chg cs1 (by omega))
              have HR := Lib.hid (HR.out.chg cs1 (.inl (by omega)))
              have HS := Lib.hid (HS.out.chg cs1 (.inl (by omega)))
              have HC := Lib.hid (chg_to8 HC.out cs1 (by omega))
              have HZ := Lib.hid (Nat.le_trans HZ.out cs1.size)
              have HO := HO9
              clear HO9 cs1
              go_wp2_with fail
              generalize (w8.setCell ⟨cb, kk + 1, none⟩ (.int .i64 (x))) = w9 at HD HP H1 H2 HR HO HS HC HZ ⊢
              have HR := Lib.hid (HR.out.more (by omega) (by have := HZ.out; omega) : RdR w9 (w.heap.size + 2) w9.heap.size _ _ _)
              have HO := Lib.hid (HO.out.rd.more (by omega) (by have := HZ.out; omega) : Rd w9 (w.heap.size + 2) w9.heap.size _ _ _)
              have HZ := Lib.hid (Nat.le_refl w9.heap.size)
              have cd : Chg w9 w9.drew 0 0 := Chg.of_drew ⟨1, rfl⟩ 0 0
              have HD := Lib.hid (HD.out.chg cd (by omega))
              have HP := Lib.hid (HP.out.chg cd (by omega))
              have H1 := Lib.hid (H1.out.chg cd (by omega))
              have H2 := Lib.hid (H2.out.chg cd (by omega))
              have HR := Lib.hid (HR.out.chg cd (.inr (by omega)))
              have HO := Lib.hid (HO.out.chg cd (.inr (by omega)))
              have HS := Lib.hid (HS.out.still cd)
              have HC := Lib.hid (HC.out.trans (cd.any g (g + 1)))
              have HZ := Lib.hid (Nat.le_trans HZ.out cd.size)
              have hS0 := And.intro HD.out HP.out
              clear cd
              go_wp2_with fail
              refine wp_region_held_drew (S := fun V => SBox V 26 db #[.slice (some ⟨b, 0, none⟩) 4 c] ∧ SBox V 29 pb #[.int .i64 st, .int .i64 ld, .slice (some ⟨cb, 0, none⟩) m cp]) (by kernel_rfl) hS0 (fun hHeld => ?_)
              generalize w9.drew = V0 at HD HP H1 H2 HR HO HS HC HZ hHeld ⊢
              refine take_slotC (i := 0) (d := some 84) (v := .agg #[.slice (some ⟨b, 0, none⟩) 4 c]) rfl (by kernel_rfl) (by kernel_rfl) (by kernel_rfl) (by kernel_rfl) (fun _ _ _ h => h) (yieldsIf_load_mid (by kernel_rfl) 26 (.tmp 4) rfl db 0 rfl [.slice (some ⟨b, 0, none⟩) 4 c] _ (fun V hV => SBox.range hV.1) Try.underlying26 rfl (deal_infoLd _)) hHeld ?_
              try simp only [Act.put, List.setIfInBounds_toArray, List.set_cons_zero, List.set_cons_succ]
              refine take_slotC (i := 1) (d := some 85) (v := .agg #[.int .i64 st, .int .i64 ld, .slice (some ⟨cb, 0, none⟩) m cp]) rfl (by kernel_rfl) (by kernel_rfl) (by kernel_rfl) (by kernel_rfl) (fun _ _ _ h => h) (yieldsIf_load_mid (by kernel_rfl) 29 (.tmp 5) rfl pb 0 rfl [.int .i64 st, .int .i64 ld, .slice (some ⟨cb, 0, none⟩) m cp] _ (fun V hV => SBox.range hV.2) Try.underlying29 rfl (play_infoL _ _ _)) hHeld ?_
              try simp only [Act.put, List.setIfInBounds_toArray, List.set_cons_zero, List.set_cons_succ]
              refine wpAnyH_ready (rs := [2]) (by kernel_rfl) (by simp) (AllReadyH.cons (i := 2) rfl (fun K' hK' => ?_) AllReadyH.nil)
              have N1 := Lib.hid (setRow_heap V0 w.heap.size _ #[.slice (some ⟨b, 0, none⟩) 4 c] _ _ H1.out)
              have Cr := chgr8 V0 w.heap.size #[.slice (some ⟨b, 0, none⟩) 4 c]
              refine step_of_wp7 rfl (wp_store_row 26 _ _ rfl w.heap.size #[.slice (some ⟨b, 0, none⟩) 4 c] rfl rfl 26 #[.slice none 0 0] H1.out (deal_info8 _) rfl (deal_cells8 _ _ _) ?_)
              have HD := Lib.hid (HD.out.chg Cr (by omega))
              have HP := Lib.hid (HP.out.chg Cr (by omega))
              have HR := Lib.hid (HR.out.chg Cr (.inr (by omega)))
              have HO := Lib.hid (HO.out.chg Cr (.inr (by omega)))
              have HS := Lib.hid (HS.out.chg Cr (.inl (by omega)))
              have HC := Lib.hid (chg_to8 HC.out Cr (by omega))
              have HZ := Lib.hid (Nat.le_trans HZ.out Cr.size)
              have H2 := Lib.hid (H2.out.chg Cr (by omega))
              refine hK'.out _ _ (And.intro HD.out HP.out) (fun hHeld => ?_)
              clear hK' Cr
              generalize V0.setRow w.heap.size #[.slice (some ⟨b, 0, none⟩) 4 c] = V1 at N1 HD HP HR HO HS HC HZ H2 hHeld ⊢
              refine wpAnyH_ready (rs := [3]) (by kernel_rfl) (by simp) (AllReadyH.cons (i := 3) rfl (fun K' hK' => ?_) AllReadyH.nil)
              have N2 := Lib.hid (setRow_heap V1 (w.heap.size + 1) _ #[.int .i64 st, .int .i64 ld, .slice (some ⟨cb, 0, none⟩) m cp] _ _ H2.out)
              have Cr := chgr8 V1 (w.heap.size + 1) #[.int .i64 st, .int .i64 ld, .slice (some ⟨cb, 0, none⟩) m cp]
              refine step_of_wp7 rfl (wp_store_row 29 _ _ rfl (w.heap.size + 1) #[.int .i64 st, .int .i64 ld, .slice (some ⟨cb, 0, none⟩) m cp] rfl rfl 29 #[.int .i64 0, .int .i64 0, .slice none 0 0] H2.out (play_info _ _ _ _ _) rfl (play_cells _ _ _ _ _) ?_)
              have HD := Lib.hid (HD.out.chg Cr (by omega))
              have HP := Lib.hid (HP.out.chg Cr (by omega))
              have HR := Lib.hid (HR.out.chg Cr (.inr (by omega)))
              have HO := Lib.hid (HO.out.chg Cr (.inr (by omega)))
              have HS := Lib.hid (HS.out.chg Cr (.inl (by omega)))
              have HC := Lib.hid (chg_to8 HC.out Cr (by omega))
              have HZ := Lib.hid (Nat.le_trans HZ.out Cr.size)
              have N1 := Lib.hid (SBox.chg N1.out Cr (by omega))
              refine hK'.out _ _ (And.intro HD.out HP.out) (fun hHeld => ?_)
              clear hK' hHeld Cr
              generalize V1.setRow (w.heap.size + 1) #[.int .i64 st, .int .i64 ld, .slice (some ⟨cb, 0, none⟩) m cp] = V2 at N1 N2 HD HP HR HO HS HC HZ ⊢
              refine wpAnyH_done (by kernel_rfl) ?_ _
              go_wp2_with fail
              refine bodyPost_ret (v := .tuple #[.agg #[.slice (some ⟨b, 0, none⟩) 4 c], .agg #[.int .i64 st, .int .i64 ld, .slice (some ⟨cb, 0, none⟩) m cp]]) (results_rows8 Try.results63 _ _ w.heap.size (w.heap.size + 1) #[.slice (some ⟨b, 0, none⟩) 4 c] #[.int .i64 st, .int .i64 ld, .slice (some ⟨cb, 0, none⟩) m cp] _ _ rfl rfl N1.out N2.out Try.underlying26 rfl (deal_info8 _) Try.underlying29 rfl (play_info _ _ _ _ _)) rfl ?_
              exact ⟨some ⟨b, 0, none⟩, 4, c, zss, st, ld, some ⟨cb, 0, none⟩, m, cp, (us.set kk y).set (kk + 1) x, rfl, hc4, H15.out, by omega, HMC.out, HNIL.out, HR.out.more (by omega) HZ.out, HO.out.more (by omega) HZ.out, HS.out, HC.out⟩
            · have hm0I : ¬ (1 : Int) < (m : Int) := by omega
              go_wp2_with fail
              have HR := Lib.hid (HR.out.more (by omega) (by have := HZ.out; omega) : RdR w6 (w.heap.size + 2) w6.heap.size _ _ _)
              have HO := Lib.hid (HO.out.rd.more (by omega) (by have := HZ.out; omega) : Rd w6 (w.heap.size + 2) w6.heap.size _ _ _)
              have HZ := Lib.hid (Nat.le_refl w6.heap.size)
              have cd : Chg w6 w6.drew 0 0 := Chg.of_drew ⟨1, rfl⟩ 0 0
              have HD := Lib.hid (HD.out.chg cd (by omega))
              have HP := Lib.hid (HP.out.chg cd (by omega))
              have H1 := Lib.hid (H1.out.chg cd (by omega))
              have H2 := Lib.hid (H2.out.chg cd (by omega))
              have HR := Lib.hid (HR.out.chg cd (.inr (by omega)))
              have HO := Lib.hid (HO.out.chg cd (.inr (by omega)))
              have HS := Lib.hid (HS.out.still cd)
              have HC := Lib.hid (HC.out.trans (cd.any g (g + 1)))
              have HZ := Lib.hid (Nat.le_trans HZ.out cd.size)
              have hS0 := And.intro HD.out HP.out
              clear cd
              go_wp2_with fail
              refine wp_region_held_drew (S := fun V => SBox V 26 db #[.slice (some ⟨b, 0, none⟩) 4 c] ∧ SBox V 29 pb #[.int .i64 st, .int .i64 ld, .slice A m cp]) (by kernel_rfl) hS0 (fun hHeld => ?_)
              generalize w6.drew = V0 at HD HP H1 H2 HR HO HS HC HZ hHeld ⊢
              refine take_slotC (i := 0) (d := some 84) (v := .agg #[.slice (some ⟨b, 0, none⟩) 4 c]) rfl (by kernel_rfl) (by kernel_rfl) (by kernel_rfl) (by kernel_rfl) (fun _ _ _ h => h) (yieldsIf_load_mid (by kernel_rfl) 26 (.tmp 4) rfl db 0 rfl [.slice (some ⟨b, 0, none⟩) 4 c] _ (fun V hV => SBox.range hV.1) Try.underlying26 rfl (deal_infoLd _)) hHeld ?_
              try simp only [Act.put, List.setIfInBounds_toArray, List.set_cons_zero, List.set_cons_succ]
              refine take_slotC (i := 1) (d := some 85) (v := .agg #[.int .i64 st, .int .i64 ld, .slice A m cp]) rfl (by kernel_rfl) (by kernel_rfl) (by kernel_rfl) (by kernel_rfl) (fun _ _ _ h => h) (yieldsIf_load_mid (by kernel_rfl) 29 (.tmp 5) rfl pb 0 rfl [.int .i64 st, .int .i64 ld, .slice A m cp] _ (fun V hV => SBox.range hV.2) Try.underlying29 rfl (play_infoL _ _ _)) hHeld ?_
              try simp only [Act.put, List.setIfInBounds_toArray, List.set_cons_zero, List.set_cons_succ]
              refine wpAnyH_ready (rs := [2]) (by kernel_rfl) (by simp) (AllReadyH.cons (i := 2) rfl (fun K' hK' => ?_) AllReadyH.nil)
              have N1 := Lib.hid (setRow_heap V0 w.heap.size _ #[.slice (some ⟨b, 0, none⟩) 4 c] _ _ H1.out)
              have Cr := chgr8 V0 w.heap.size #[.slice (some ⟨b, 0, none⟩) 4 c]
              refine step_of_wp7 rfl (wp_store_row 26 _ _ rfl w.heap.size #[.slice (some ⟨b, 0, none⟩) 4 c] rfl rfl 26 #[.slice none 0 0] H1.out (deal_info8 _) rfl (deal_cells8 _ _ _) ?_)
              have HD := Lib.hid (HD.out.chg Cr (by omega))
              have HP := Lib.hid (HP.out.chg Cr (by omega))
              have HR := Lib.hid (HR.out.chg Cr (.inr (by omega)))
              have HO := Lib.hid (HO.out.chg Cr (.inr (by omega)))
              have HS := Lib.hid (HS.out.chg Cr (.inl (by omega)))
              have HC := Lib.hid (chg_to8 HC.out Cr (by omega))
              have HZ := Lib.hid (Nat.le_trans HZ.out Cr.size)
              have H2 := Lib.hid (H2.out.chg Cr (by omega))
              refine hK'.out _ _ (And.intro HD.out HP.out) (fun hHeld => ?_)
              clear hK' Cr
              generalize V0.setRow w.heap.size #[.slice (some ⟨b, 0, none⟩) 4 c] = V1 at N1 HD HP HR HO HS HC HZ H2 hHeld ⊢
              refine wpAnyH_ready (rs := [3]) (by kernel_rfl) (by simp) (AllReadyH.cons (i := 3) rfl (fun K' hK' => ?_) AllReadyH.nil)
              have N2 := Lib.hid (setRow_heap V1 (w.heap.size + 1) _ #[.int .i64 st, .int .i64 ld, .slice A m cp] _ _ H2.out)
              have Cr := chgr8 V1 (w.heap.size + 1) #[.int .i64 st, .int .i64 ld, .slice A m cp]
              refine step_of_wp7 rfl (wp_store_row 29 _ _ rfl (w.heap.size + 1) #[.int .i64 st, .int .i64 ld, .slice A m cp] rfl rfl 29 #[.int .i64 0, .int .i64 0, .slice none 0 0] H2.out (play_info _ _ _ _ _) rfl (play_cells _ _ _ _ _) ?_)
              have HD := Lib.hid (HD.out.chg Cr (by omega))
              have HP := Lib.hid (HP.out.chg Cr (by omega))
              have HR := Lib.hid (HR.out.chg Cr (.inr (by omega)))
              have HO := Lib.hid (HO.out.chg Cr (.inr (by omega)))
              have HS := Lib.hid (HS.out.chg Cr (.inl (by omega)))
              have HC := Lib.hid (chg_to8 HC.out Cr (by omega))
              have HZ := Lib.hid (Nat.le_trans HZ.out Cr.size)
              have N1 := Lib.hid (SBox.chg N1.out Cr (by omega))
              refine hK'.out _ _ (And.intro HD.out HP.out) (fun hHeld => ?_)
              clear hK' hHeld Cr
              generalize V1.setRow (w.heap.size + 1) #[.int .i64 st, .int .i64 ld, .slice A m cp] = V2 at N1 N2 HD HP HR HO HS HC HZ ⊢
              refine wpAnyH_done (by kernel_rfl) ?_ _
              go_wp2_with fail
              refine bodyPost_ret (v := .tuple #[.agg #[.slice (some ⟨b, 0, none⟩) 4 c], .agg #[.int .i64 st, .int .i64 ld, .slice A m cp]]) (results_rows8 Try.results63 _ _ w.heap.size (w.heap.size + 1) #[.slice (some ⟨b, 0, none⟩) 4 c] #[.int .i64 st, .int .i64 ld, .slice A m cp] _ _ rfl rfl N1.out N2.out Try.underlying26 rfl (deal_info8 _) Try.underlying29 rfl (play_info _ _ _ _ _)) rfl ?_
              exact ⟨some ⟨b, 0, none⟩, 4, c, zss, st, ld, A, m, cp, us, rfl, hc4, H15.out, by omega, HMC.out, HNIL.out, HR.out.more (by omega) HZ.out, HO.out.more (by omega) HZ.out, HS.out, HC.out⟩
          · skip
            by_cases p5 : r = 5
            · subst p5
              go_wp2_with fail
              refine (l03DrawAny g w6 HS.out).mono ?_
              rintro e w7 ⟨A5, n5, c5, z5, rfl, _, hc5, hrd5, h155, s1, c1⟩
              have HD := Lib.hid (HD.out.chg c1 (by omega))
              have HP := Lib.hid (HP.out.chg c1 (by omega))
              have H1 := Lib.hid (H1.out.chg c1 (by omega))
              have H2 := Lib.hid (H2.out.chg c1 (by omega))
              have HR := Lib.hid (HR.out.chg c1 (.inr (by omega)))
              have HO := Lib.hid (HO.out.chg c1 (.inr (by omega)))
              have HS := Lib.hid (s1)
              have HC := Lib.hid (HC.out.trans c1)
              have HZ := Lib.hid (Nat.le_trans HZ.out c1.size)
              have Cr := chgr8 w7 db #[.slice A5 n5 c5]
              have HD9 := Lib.hid (show SBox _ _ _ _ from setRow_heap w7 db _ #[.slice A5 n5 c5] _ _ HD.out)
              have hR5 := (hrd5.chg Cr (.inr (by have := HZ0.out; omega))).more (show w.heap.size + 2 ≤ w6.heap.size by have := HZ0.out; omega) Cr.size
              have H15 := Lib.hid h155
              clear hrd5 s1 c1
              go_wp2_with (refine wpList_store_row rfl 26 _ _ rfl db #[.slice A5 n5 c5] rfl rfl 26 #[.slice (some ⟨b, 0, none⟩) 4 c] HD.out (deal_info8 _) rfl (deal_cells8 _ _ _) ?_)
              clear HR
              have HP := Lib.hid (HP.out.chg Cr (by omega))
              have H1 := Lib.hid (H1.out.chg Cr (by omega))
              have H2 := Lib.hid (H2.out.chg Cr (by omega))
              have HO := Lib.hid (HO.out.chg Cr (.inl (by omega)))
              have HS := Lib.hid (HS.out.chg Cr (.inl (by omega)))
              have HC := Lib.hid (chg_to8 HC.out Cr (by omega))
              have HZ := Lib.hid (Nat.le_trans HZ.out Cr.size)
              have HD := HD9
              have HR := Lib.hid hR5
              clear HD9 hR5 Cr
              generalize (w7.setRow db #[.slice A5 n5 c5]) = w9 at HD HP H1 H2 HR HO HS HC HZ ⊢
              have HR := Lib.hid (HR.out.more (by omega) (by have := HZ.out; omega) : RdR w9 (w.heap.size + 2) w9.heap.size _ _ _)
              have HO := Lib.hid (HO.out.rd.more (by omega) (by have := HZ.out; omega) : Rd w9 (w.heap.size + 2) w9.heap.size _ _ _)
              have HZ := Lib.hid (Nat.le_refl w9.heap.size)
              have cd : Chg w9 w9.drew 0 0 := Chg.of_drew ⟨1, rfl⟩ 0 0
              have HD := Lib.hid (HD.out.chg cd (by omega))
              have HP := Lib.hid (HP.out.chg cd (by omega))
              have H1 := Lib.hid (H1.out.chg cd (by omega))
              have H2 := Lib.hid (H2.out.chg cd (by omega))
              have HR := Lib.hid (HR.out.chg cd (.inr (by omega)))
              have HO := Lib.hid (HO.out.chg cd (.inr (by omega)))
              have HS := Lib.hid (HS.out.still cd)
              have HC := Lib.hid (HC.out.trans (cd.any g (g + 1)))
              have HZ := Lib.hid (Nat.le_trans HZ.out cd.size)
              have hS0 := And.intro HD.out HP.out
              clear cd
              go_wp2_with fail
              refine wp_region_held_drew (S := fun V => SBox V 26 db #[.slice A5 n5 c5] ∧ SBox V 29 pb #[.int .i64 st, .int .i64 ld, .slice A m cp]) (by kernel_rfl) hS0 (fun hHeld => ?_)
              generalize w9.drew = V0 at HD HP H1 H2 HR HO HS HC HZ hHeld ⊢
              refine take_slotC (i := 0) (d := some 84) (v := .agg #[.slice A5 n5 c5]) rfl (by kernel_rfl) (by kernel_rfl) (by kernel_rfl) (by kernel_rfl) (fun _ _ _ h => h) (yieldsIf_load_mid (by kernel_rfl) 26 (.tmp 4) rfl db 0 rfl [.slice A5 n5 c5] _ (fun V hV => SBox.range hV.1) Try.underlying26 rfl (deal_infoLd _)) hHeld ?_
              try simp only [Act.put, List.setIfInBounds_toArray, List.set_cons_zero, List.set_cons_succ]
              refine take_slotC (i := 1) (d := some 85) (v := .agg #[.int .i64 st, .int .i64 ld, .slice A m cp]) rfl (by kernel_rfl) (by kernel_rfl) (by kernel_rfl) (by kernel_rfl) (fun _ _ _ h => h) (yieldsIf_load_mid (by kernel_rfl) 29 (.tmp 5) rfl pb 0 rfl [.int .i64 st, .int .i64 ld, .slice A m cp] _ (fun V hV => SBox.range hV.2) Try.underlying29 rfl (play_infoL _ _ _)) hHeld ?_
              try simp only [Act.put, List.setIfInBounds_toArray, List.set_cons_zero, List.set_cons_succ]
              refine wpAnyH_ready (rs := [2]) (by kernel_rfl) (by simp) (AllReadyH.cons (i := 2) rfl (fun K' hK' => ?_) AllReadyH.nil)
              have N1 := Lib.hid (setRow_heap V0 w.heap.size _ #[.slice A5 n5 c5] _ _ H1.out)
              have Cr := chgr8 V0 w.heap.size #[.slice A5 n5 c5]
              refine step_of_wp7 rfl (wp_store_row 26 _ _ rfl w.heap.size #[.slice A5 n5 c5] rfl rfl 26 #[.slice none 0 0] H1.out (deal_info8 _) rfl (deal_cells8 _ _ _) ?_)
              have HD := Lib.hid (HD.out.chg Cr (by omega))
              have HP := Lib.hid (HP.out.chg Cr (by omega))
              have HR := Lib.hid (HR.out.chg Cr (.inr (by omega)))
              have HO := Lib.hid (HO.out.chg Cr (.inr (by omega)))
              have HS := Lib.hid (HS.out.chg Cr (.inl (by omega)))
              have HC := Lib.hid (chg_to8 HC.out Cr (by omega))
              have HZ := Lib.hid (Nat.le_trans HZ.out Cr.size)
              have H2 := Lib.hid (H2.out.chg Cr (by omega))
              refine hK'.out _ _ (And.intro HD.out HP.out) (fun hHeld => ?_)
              clear hK' Cr
              generalize V0.setRow w.heap.size #[.slice A5 n5 c5] = V1 at N1 HD HP HR HO HS HC HZ H2 hHeld ⊢
              refine wpAnyH_ready (rs := [3]) (by kernel_rfl) (by simp) (AllReadyH.cons (i := 3) rfl (fun K' hK' => ?_) AllReadyH.nil)
              have N2 := Lib.hid (setRow_heap V1 (w.heap.size + 1) _ #[.int .i64 st, .int .i64 ld, .slice A m cp] _ _ H2.out)
              have Cr := chgr8 V1 (w.heap.size + 1) #[.int .i64 st, .int .i64 ld, .slice A m cp]
              refine step_of_wp7 rfl (wp_store_row 29 _ _ rfl (w.heap.size + 1) #[.int .i64 st, .int .i64 ld, .slice A m cp] rfl rfl 29 #[.int .i64 0, .int .i64 0, .slice none 0 0] H2.out (play_info _ _ _ _ _) rfl (play_cells _ _ _ _ _) ?_)
              have HD := Lib.hid (HD.out.chg Cr (by omega))
              have HP := Lib.hid (HP.out.chg Cr (by omega))
              have HR := Lib.hid (HR.out.chg Cr (.inr (by omega)))
              have HO := Lib.hid (HO.out.chg Cr (.inr (by omega)))
              have HS := Lib.hid (HS.out.chg Cr (.inl (by omega)))
              have HC := Lib.hid (chg_to8 HC.out Cr (by omega))
              have HZ := Lib.hid (Nat.le_trans HZ.out Cr.size)
              have N1 := Lib.hid (SBox.chg N1.out Cr (by omega))
              refine hK'.out _ _ (And.intro HD.out HP.out) (fun hHeld => ?_)
              clear hK' hHeld Cr
              generalize V1.setRow (w.heap.size + 1) #[.int .i64 st, .int .i64 ld, .slice A m cp] = V2 at N1 N2 HD HP HR HO HS HC HZ ⊢
              refine wpAnyH_done (by kernel_rfl) ?_ _
              go_wp2_with fail
              refine bodyPost_ret (v := .tuple #[.agg #[.slice A5 n5 c5], .agg #[.int .i64 st, .int .i64 ld, .slice A m cp]]) (results_rows8 Try.results63 _ _ w.heap.size (w.heap.size + 1) #[.slice A5 n5 c5] #[.int .i64 st, .int .i64 ld, .slice A m cp] _ _ rfl rfl N1.out N2.out Try.underlying26 rfl (deal_info8 _) Try.underlying29 rfl (play_info _ _ _ _ _)) rfl ?_
              exact ⟨A5, n5, c5, z5, st, ld, A, m, cp, us, rfl, hc5, H15.out, by omega, HMC.out, HNIL.out, HR.out.more (by omega) HZ.out, HO.out.more (by omega) HZ.out, HS.out, HC.out⟩
            · skip
              go_wp2_with fail
              have HR := Lib.hid (HR.out.more (by omega) (by have := HZ.out; omega) : RdR w6 (w.heap.size + 2) w6.heap.size _ _ _)
              have HO := Lib.hid (HO.out.rd.more (by omega) (by have := HZ.out; omega) : Rd w6 (w.heap.size + 2) w6.heap.size _ _ _)
              have HZ := Lib.hid (Nat.le_refl w6.heap.size)
              have cd : Chg w6 w6.drew 0 0 := Chg.of_drew ⟨1, rfl⟩ 0 0
              have HD := Lib.hid (HD.out.chg cd (by omega))
              have HP := Lib.hid (HP.out.chg cd (by omega))
              have H1 := Lib.hid (H1.out.chg cd (by omega))
              have H2 := Lib.hid (H2.out.chg cd (by omega))
              have HR := Lib.hid (HR.out.chg cd (.inr (by omega)))
              have HO := Lib.hid (HO.out.chg cd (.inr (by omega)))
              have HS := Lib.hid (HS.out.still cd)
              have HC := Lib.hid (HC.out.trans (cd.any g (g + 1)))
              have HZ := Lib.hid (Nat.le_trans HZ.out cd.size)
              have hS0 := And.intro HD.out HP.out
              clear cd
              go_wp2_with fail
              refine wp_region_held_drew (S := fun V => SBox V 26 db #[.slice (some ⟨b, 0, none⟩) 4 c] ∧ SBox V 29 pb #[.int .i64 st, .int .i64 ld, .slice A m cp]) (by kernel_rfl) hS0 (fun hHeld => ?_)
              generalize w6.drew = V0 at HD HP H1 H2 HR HO HS HC HZ hHeld ⊢
              refine take_slotC (i := 0) (d := some 84) (v := .agg #[.slice (some ⟨b, 0, none⟩) 4 c]) rfl (by kernel_rfl) (by kernel_rfl) (by kernel_rfl) (by kernel_rfl) (fun _ _ _ h => h) (yieldsIf_load_mid (by kernel_rfl) 26 (.tmp 4) rfl db 0 rfl [.slice (some ⟨b, 0, none⟩) 4 c] _ (fun V hV => SBox.range hV.1) Try.underlying26 rfl (deal_infoLd _)) hHeld ?_
              try simp only [Act.put, List.setIfInBounds_toArray, List.set_cons_zero, List.set_cons_succ]
              refine take_slotC (i := 1) (d := some 85) (v := .agg #[.int .i64 st, .int .i64 ld, .slice A m cp]) rfl (by kernel_rfl) (by kernel_rfl) (by kernel_rfl) (by kernel_rfl) (fun _ _ _ h => h) (yieldsIf_load_mid (by kernel_rfl) 29 (.tmp 5) rfl pb 0 rfl [.int .i64 st, .int .i64 ld, .slice A m cp] _ (fun V hV => SBox.range hV.2) Try.underlying29 rfl (play_infoL _ _ _)) hHeld ?_
              try simp only [Act.put, List.setIfInBounds_toArray, List.set_cons_zero, List.set_cons_succ]
              refine wpAnyH_ready (rs := [2]) (by kernel_rfl) (by simp) (AllReadyH.cons (i := 2) rfl (fun K' hK' => ?_) AllReadyH.nil)
              have N1 := Lib.hid (setRow_heap V0 w.heap.size _ #[.slice (some ⟨b, 0, none⟩) 4 c] _ _ H1.out)
              have Cr := chgr8 V0 w.heap.size #[.slice (some ⟨b, 0, none⟩) 4 c]
              refine step_of_wp7 rfl (wp_store_row 26 _ _ rfl w.heap.size #[.slice (some ⟨b, 0, none⟩) 4 c] rfl rfl 26 #[.slice none 0 0] H1.out (deal_info8 _) rfl (deal_cells8 _ _ _) ?_)
              have HD := Lib.hid (HD.out.chg Cr (by omega))
              have HP := Lib.hid (HP.out.chg Cr (by omega))
              have HR := Lib.hid (HR.out.chg Cr (.inr (by omega)))
              have HO := Lib.hid (HO.out.chg Cr (.inr (by omega)))
              have HS := Lib.hid (HS.out.chg Cr (.inl (by omega)))
              have HC := Lib.hid (chg_to8 HC.out Cr (by omega))
              have HZ := Lib.hid (Nat.le_trans HZ.out Cr.size)
              have H2 := Lib.hid (H2.out.chg Cr (by omega))
              refine hK'.out _ _ (And.intro HD.out HP.out) (fun hHeld => ?_)
              clear hK' Cr
              generalize V0.setRow w.heap.size #[.slice (some ⟨b, 0, none⟩) 4 c] = V1 at N1 HD HP HR HO HS HC HZ H2 hHeld ⊢
              refine wpAnyH_ready (rs := [3]) (by kernel_rfl) (by simp) (AllReadyH.cons (i := 3) rfl (fun K' hK' => ?_) AllReadyH.nil)
              have N2 := Lib.hid (setRow_heap V1 (w.heap.size + 1) _ #[.int .i64 st, .int .i64 ld, .slice A m cp] _ _ H2.out)
              have Cr := chgr8 V1 (w.heap.size + 1) #[.int .i64 st, .int .i64 ld, .slice A m cp]
              refine step_of_wp7 rfl (wp_store_row 29 _ _ rfl (w.heap.size + 1) #[.int .i64 st, .int .i64 ld, .slice A m cp] rfl rfl 29 #[.int .i64 0, .int .i64 0, .slice none 0 0] H2.out (play_info _ _ _ _ _) rfl (play_cells _ _ _ _ _) ?_)
              have HD := Lib.hid (HD.out.chg Cr (by omega))
              have HP := Lib.hid (HP.out.chg Cr (by omega))
              have HR := Lib.hid (HR.out.chg Cr (.inr (by omega)))
              have HO := Lib.hid (HO.out.chg Cr (.inr (by omega)))
              have HS := Lib.hid (HS.out.chg Cr (.inl (by omega)))
              have HC := Lib.hid (chg_to8 HC.out Cr (by omega))
              have HZ := Lib.hid (Nat.le_trans HZ.out Cr.size)
              have N1 := Lib.hid (SBox.chg N1.out Cr (by omega))
              refine hK'.out _ _ (And.intro HD.out HP.out) (fun hHeld => ?_)
              clear hK' hHeld Cr
              generalize V1.setRow (w.heap.size + 1) #[.int .i64 st, .int .i64 ld, .slice A m cp] = V2 at N1 N2 HD HP HR HO HS HC HZ ⊢
              refine wpAnyH_done (by kernel_rfl) ?_ _
              go_wp2_with fail
              refine bodyPost_ret (v := .tuple #[.agg #[.slice (some ⟨b, 0, none⟩) 4 c], .agg #[.int .i64 st, .int .i64 ld, .slice A m cp]]) (results_rows8 Try.results63 _ _ w.heap.size (w.heap.size + 1) #[.slice (some ⟨b, 0, none⟩) 4 c] #[.int .i64 st, .int .i64 ld, .slice A m cp] _ _ rfl rfl N1.out N2.out Try.underlying26 rfl (deal_info8 _) Try.underlying29 rfl (play_info _ _ _ _ _)) rfl ?_
              exact ⟨some ⟨b, 0, none⟩, 4, c, zss, st, ld, A, m, cp, us, rfl, hc4, H15.out, by omega, HMC.out, HNIL.out, HR.out.more (by omega) HZ.out, HO.out.more (by omega) HZ.out, HS.out, HC.out⟩
end Go.Proofs.Yteglffbeldlibaa.Lib1
