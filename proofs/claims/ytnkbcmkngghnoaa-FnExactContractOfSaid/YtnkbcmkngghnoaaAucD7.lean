/- Chapter 7: the model's contract of an auction, ContractOf and IsContract. -/
import Derived.Test.YtnkbcmkngghnoaaAucC7
namespace Go.Proofs.Ytnkbcmkngghnoaa.Lib1
open Go.RowKit
set_option maxRecDepth 100000

/-- Where the declarer of the side of place k first bid strain s: i steps back from k. -/
def firTo (cs : List Int) (k : Nat) (s : Int) : Nat → Nat
  | 0 => k
  | i + 1 => if i % 2 = 0 ∧ strV (cs.getD (k - i) 0) = s then k - i else firTo cs k s i
theorem firTo_le (cs : List Int) (k : Nat) (s : Int) : ∀ i, firTo cs k s i ≤ k
  | 0 => Nat.le_refl _
  | i + 1 => by have := firTo_le cs k s i; simp only [firTo]; split <;> omega
/-- The least place of the side that has bid the strain. -/
theorem firTo_least {cs : List Int} {k : Nat} {s : Int} (hk : strV (cs.getD k 0) = s) : ∀ i, 1 ≤ i → i ≤ k + 1 → (k - firTo cs k s i) % 2 = 0 ∧ strV (cs.getD (firTo cs k s i) 0) = s ∧ k < firTo cs k s i + i ∧ ∀ j, j < firTo cs k s i → k < j + i → (k - j) % 2 = 0 → strV (cs.getD j 0) ≠ s
  | 0, h, _ => by omega
  | 1, _, _ => by
    have e : firTo cs k s 1 = k := by rw [firTo, if_pos ⟨rfl, by simpa using hk⟩]; omega
    rw [e]
    exact ⟨by omega, hk, by omega, fun j h1 h2 => by omega⟩
  | i + 2, _, hi => by
    have ih := firTo_least hk (i + 1) (by omega) (by omega)
    rw [firTo]
    by_cases h : (i + 1) % 2 = 0 ∧ strV (cs.getD (k - (i + 1)) 0) = s
    · rw [if_pos h]
      exact ⟨by omega, h.2, by omega, fun j h1 h2 => by omega⟩
    · rw [if_neg h]
      refine ⟨ih.1, ih.2.1, by omega, fun j h1 h2 h3 hj => ?_⟩
      by_cases e : j = k - (i + 1)
      · subst e; exact h ⟨by omega, hj⟩
      · exact ih.2.2.2 j h1 (by omega) h3 hj
theorem firTo_is {cs : List Int} {k f : Nat} {s : Int} (hk : strV (cs.getD k 0) = s) (h1 : (k - f) % 2 = 0) (h2 : strV (cs.getD f 0) = s) (h3 : ∀ j, j < f → (k - j) % 2 = 0 → strV (cs.getD j 0) ≠ s) : firTo cs k s (k + 1) = f := by
  have h := firTo_least hk (k + 1) (by omega) (Nat.le_refl _)
  rcases Nat.lt_trichotomy (firTo cs k s (k + 1)) f with q | q | q
  · exact absurd h.2.1 (h3 _ q h.1)
  · exact q
  · exact absurd h2 (h.2.2.2 f q (by omega) h1)
/-- The contract of calls that end an auction: level, strain, state, declarer. -/
def conL (cs : List Int) (n : Nat) : Int := if bidTo cs n < 0 then 0 else levV (bidTo cs n)
def conS (cs : List Int) (n : Nat) : Int := if bidTo cs n < 0 then 0 else strV (bidTo cs n)
def conX (cs : List Int) (n : Nat) : Int := if bidTo cs n < 0 then 0 else stTo cs n
def conD (d : Int) (cs : List Int) (n : Nat) : Int := if bidTo cs n < 0 then 0 else (d + (firTo cs (atTo cs n).toNat (strV (bidTo cs n)) ((atTo cs n).toNat + 1) : Int)) % 4
def conA (l s x d : Int) : Array Value := #[.int .i64 l, .int .i64 s, .int .i64 x, .int .i64 d]
theorem con_info (l s x d : Int) : (Try.prog.info? 36).map (·.size) = some (conA l s x d).size := by kernel_rfl
theorem con_cells (l s x d : Int) : (conA l s x d).all (·.oneCell') = true := by kernel_rfl

set_option maxHeartbeats 3200000 in
theorem l07Contract (d : Int) (A : Option Addr) (n c : Nat) (zs : List Int) (w : World) (h : Rp w A n zs) (hn : n ≤ 1048576) (hd : 0 ≤ d ∧ d ≤ 3) :
    Calls Try.prog 63 #[.agg #[.int .i64 d, .slice A n c]] w fun e w' => e = .returned (.agg (conA (conL zs n) (conS zs n) (conX zs n) (conD d zs n))) ∧ Chg w w' 0 0 := by
  have e1 : (w.alloc (.cells #[.int .i64 d, .slice A n c] 26)).heap.size = w.heap.size + 1 := by simp
  have B0 : Hid (ABox ((w.alloc (.cells #[.int .i64 d, .slice A n c] 26)).alloc (.cells #[.int .i64 0, .int .i64 0, .int .i64 0, .int .i64 0] 36)) w.heap.size d A n c) := (ABox.new w d A n c).still (Chg.of_alloc (w.alloc (.cells #[.int .i64 d, .slice A n c] 26)) (.cells (conA 0 0 0 0) 36) 0 0)
  have C0 : Hid (Chg w ((w.alloc (.cells #[.int .i64 d, .slice A n c] 26)).alloc (.cells #[.int .i64 0, .int .i64 0, .int .i64 0, .int .i64 0] 36)) 0 0) := (Chg.of_alloc w (.cells #[.int .i64 d, .slice A n c] 26) 0 0).trans (Chg.of_alloc (w.alloc (.cells #[.int .i64 d, .slice A n c] 26)) (.cells (conA 0 0 0 0) 36) 0 0)
  have Z0 := heap_alloc_new (w.alloc (.cells #[.int .i64 d, .slice A n c] 26)) (.cells (conA 0 0 0 0) 36)
  rw [e1] at Z0
  have HZ : Hid (((w.alloc (.cells #[.int .i64 d, .slice A n c] 26)).alloc (.cells #[.int .i64 0, .int .i64 0, .int .i64 0, .int .i64 0] 36)).heap[w.heap.size + 1]? = some (.cells (conA 0 0 0 0) 36 (0, 0))) := Z0
  have H := Lib.hid (h.still C0.out)
  clear h e1 Z0
  have hb0 := B0.out.c0
  have hb1 := B0.out.c1
  have hr := stand_rng zs n
  have HD : Hid (conD d zs n = if bidTo zs n < 0 then 0 else (d + (firTo zs (atTo zs n).toNat (strV (bidTo zs n)) ((atTo zs n).toNat + 1) : Int)) % 4) := rfl
  have HC1 : Hid (conL zs n = if bidTo zs n < 0 then 0 else levV (bidTo zs n)) := rfl
  have HC2 : Hid (conS zs n = if bidTo zs n < 0 then 0 else strV (bidTo zs n)) := rfl
  have HC3 : Hid (conX zs n = if bidTo zs n < 0 then 0 else stTo zs n) := rfl
  have HS := Lib.hid (l07Standing A n c zs _ H.out hn)
  go_enter Try.func63, Try.ntmps63
  go_wp2_with fail
  generalize (w.alloc (.cells #[.int .i64 d, .slice A n c] 26)).alloc (.cells #[.int .i64 0, .int .i64 0, .int .i64 0, .int .i64 0] 36) = W at B0 C0 HZ H hb0 hb1 HS ⊢
  refine HS.out.mono ?_
  clear HS
  rcases hr.1 with ⟨q1, q2⟩ | ⟨q1, q2, q3, q4, q5⟩
  · rw [q1, q2]
    have F := Lib.hid (show conL zs n = 0 ∧ conS zs n = 0 ∧ conX zs n = 0 ∧ conD d zs n = 0 from ⟨by rw [HC1.out, q1]; rfl, by rw [HC2.out, q1]; rfl, by rw [HC3.out, q1]; rfl, by rw [HD.out, q1]; rfl⟩)
    have ZS := Lib.hid (setRow_heap W (w.heap.size + 1) _ (conA 0 0 0 0) _ _ HZ.out)
    have KS := Lib.hid (C0.out.rowC (show w.heap.size ≤ w.heap.size + 1 by omega) (conA 0 0 0 0))
    clear hr q1 q2 HD HC1 HC2 HC3
    rintro e w' ⟨rfl, rfl⟩
    go_wp2_with (refine wpList_store_row rfl 36 _ _ rfl (w.heap.size + 1) (conA 0 0 0 0) rfl rfl 36 (conA 0 0 0 0) HZ.out (con_info 0 0 0 0) rfl (con_cells 0 0 0 0) ?_)
    refine bodyPost_ret (v := .agg (conA 0 0 0 0)) (results_cell_row Try.results63 _ _ (w.heap.size + 1) 36 (conA 0 0 0 0) (0, 0) _ rfl ZS.out Try.underlying36 rfl (con_info 0 0 0 0)) rfl ?_
    rw [F.out.1, F.out.2.1, F.out.2.2.1, F.out.2.2.2]
    exact ⟨rfl, KS.out⟩
  · obtain ⟨t, ht⟩ : ∃ t : Nat, atTo zs n = (t : Int) := ⟨(atTo zs n).toNat, by omega⟩
    rw [ht] at q3 q4 q5 ⊢
    have hneg : ¬ bidTo zs n < 0 := by omega
    obtain ⟨st, hst⟩ : ∃ z, z = strV (bidTo zs n) := ⟨_, rfl⟩
    have HD' : Hid (conD d zs n = (d + (firTo zs t st (t + 1) : Int)) % 4) := by show conD d zs n = _; rw [HD.out, if_neg hneg, ht, hst]; rfl
    have HC1' : Hid (conL zs n = levV (bidTo zs n)) := by show conL zs n = _; rw [HC1.out, if_neg hneg]
    have HC2' : Hid (conS zs n = st) := by show conS zs n = _; rw [HC2.out, if_neg hneg, hst]
    have HC3' : Hid (conX zs n = stTo zs n) := by show conX zs n = _; rw [HC3.out, if_neg hneg]
    have HST := Lib.hid hst
    clear HD HC1 HC2 HC3 hr ht hst q5 q3
    obtain ⟨S0, hS0⟩ : ∃ z, z = stTo zs n := ⟨_, rfl⟩
    rw [← hS0] at HC3' ⊢
    clear hS0
    obtain ⟨Bd, hBd⟩ : ∃ z, z = bidTo zs n := ⟨_, rfl⟩
    rw [← hBd] at HC1' HST hneg q1 q2 ⊢
    clear hBd
    have htn : t < n := by omega
    clear q4
    obtain ⟨d0, d1⟩ := hd
    rintro e w' ⟨rfl, rfl⟩
    go_wp2_with fail
    go_loop [6, 7] (fun f i => ∃ (z : Int) (j : Nat), j ≤ t + 1 ∧ i = .int .i64 z ∧ Hid (z = (t : Int) - (j : Int)) ∧ f = .int .i64 (firTo zs t st j : Int)) (fun _ i => (intOf i + 1).toNat)
    case atStart => exact ⟨(t : Int), 0, by omega, rfl, by show _ = _; omega, rfl⟩
    case round =>
      obtain ⟨z, j, hj, rfl, hz, rfl⟩ := hrel
      have hzv := hz.out
      by_cases hge : j ≤ t
      · obtain ⟨b, off, rfl, hc⟩ := H.out (by omega)
        have hck := hc (t - j) (by omega)
        have z0 : 0 ≤ z := by omega
        have z1 : z < (n : Int) := by omega
        have ez : z.toNat = t - j := by omega
        have m0 : 0 ≤ (t : Int) - z := by omega
        have hst1 : Hid (firTo zs t st (j + 1) = if j % 2 = 0 ∧ strV (zs.getD (t - j) 0) = st then t - j else firTo zs t st j) := rfl
        have hz1 : Hid (z - 1 = (t : Int) - ((j + 1 : Nat) : Int)) := by show _ = _; omega
        have hpar : Hid ((((t : Int) - z) % 2 = 0) ↔ j % 2 = 0) := by show _ ↔ _; omega
        have hza : Hid (z = ((t - j : Nat) : Int)) := by show _ = _; omega
        clear hz hzv hc
        by_cases hp : ((t : Int) - z) % 2 = 0
        · have hpb : (((t : Int) - z) % 2 == 0) = true := by simpa using hp
          have hp2 := hpar.out.1 hp
          by_cases hs : strV (zs.getD (t - j) 0) = st
          · have hn1 : Hid (firTo zs t st (j + 1) = t - j) := by show _ = _; rw [hst1.out, if_pos ⟨hp2, hs⟩]
            have HS2 := Lib.hid hs
            generalize zs.getD (t - j) 0 = y at hck HS2
            clear hp hp2 hpar hs hst1
            go_wp2_with fail
            refine (spec_StrainOf y _).mono ?_
            rw [HS2.out]
            rintro e w' ⟨rfl, rfl⟩
            go_wp2_with fail
            refine (spec_StrainOf Bd _).mono ?_
            rw [← HST.out]
            rintro e w' ⟨rfl, rfl⟩
            go_wp2_with fail
            go_round
            case rel => exact ⟨z - 1, j + 1, by omega, by go_num, hz1, by rw [hn1.out, hza.out]⟩
            case measure => simp [intOf]; omega
          · have hn1 : Hid (firTo zs t st (j + 1) = firTo zs t st j) := by show _ = _; rw [hst1.out, if_neg (fun q => hs q.2)]
            generalize zs.getD (t - j) 0 = y at hck hs
            obtain ⟨sy, hsy⟩ : ∃ q, q = strV y := ⟨_, rfl⟩
            have HSY := Lib.hid hsy
            rw [← hsy] at hs
            have hsb : (sy == st) = false := by simpa using hs
            clear hp hp2 hpar hs hst1 hsy
            go_wp2_with fail
            refine (spec_StrainOf y _).mono ?_
            rw [← HSY.out]
            rintro e w' ⟨rfl, rfl⟩
            go_wp2_with fail
            refine (spec_StrainOf Bd _).mono ?_
            rw [← HST.out]
            rintro e w' ⟨rfl, rfl⟩
            go_wp2_with fail
            go_round
            case rel => exact ⟨z - 1, j + 1, by omega, by go_num, hz1, by rw [hn1.out]⟩
            case measure => simp [intOf]; omega
        · have hpb : (((t : Int) - z) % 2 == 0) = false := by simpa using hp
          have hn1 : Hid (firTo zs t st (j + 1) = firTo zs t st j) := by show _ = _; rw [hst1.out, if_neg (fun q => hp (hpar.out.2 q.1))]
          clear hp hpar hst1
          go_wp2_with fail
          go_round
          case rel => exact ⟨z - 1, j + 1, by omega, by go_num, hz1, by rw [hn1.out]⟩
          case measure => simp [intOf]; omega
      · obtain rfl : j = t + 1 := by omega
        have hzn : z = -1 := by omega
        subst hzn
        have hfl := firTo_le zs t st (t + 1)
        generalize firTo zs t st (t + 1) = f at hfl HD'
        have hf0 : 0 ≤ d + (f : Int) := by omega
        clear hz hzv hj hge
        have hq0 : W.drew.cell? ⟨w.heap.size, 0, none⟩ = some (.int .i64 d) := hb0
        have hf1 : IntKind.i64.wrap (d + (f : Int)) = d + (f : Int) := IntWalk.i64_in _ (by omega)
        have hf2 : (d + (f : Int)).tmod 4 = (d + (f : Int)) % 4 := Int.tmod_eq_emod_of_nonneg hf0
        have hf3 : IntKind.i64.wrap ((d + (f : Int)) % 4) = (d + (f : Int)) % 4 := IntWalk.i64_in _ (by omega)
        obtain ⟨L, hL⟩ : ∃ L, L = conL zs n := ⟨_, rfl⟩
        have HL := Lib.hid (hL.trans HC1'.out)
        have HLc := Lib.hid hL
        clear hL
        have HZd : Hid (W.drew.heap[w.heap.size + 1]? = some (.cells (conA 0 0 0 0) 36 (0, 0))) := HZ.out
        have ZS := Lib.hid (setRow_heap W.drew (w.heap.size + 1) _ (conA L st S0 ((d + (f : Int)) % 4)) _ _ HZd.out)
        have KS := Lib.hid ((C0.out.trans (Chg.drewN W 1 0 0)).rowC (show w.heap.size ≤ w.heap.size + 1 by omega) (conA L st S0 ((d + (f : Int)) % 4)))
        have hS2 : Hid ((W.drew.setRow (w.heap.size + 1) (conA L st S0 ((d + (f : Int)) % 4))).cell? ⟨w.heap.size, 0, none⟩ = some (.int .i64 d)) := by
          show _ = _
          rw [World.cell?_of_block (setRow_other W.drew (w.heap.size + 1) w.heap.size _ (by omega))]; exact hb0
        clear hb1
        go_wp2_with fail
        refine wp_region_held_drew (S := fun V => V.cell? ⟨w.heap.size, 0, none⟩ = some (.int .i64 d)) (by kernel_rfl) hq0 (fun hHeld => ?_)
        refine take_slotC (i := 0) (d := some 41) (v := .int .i64 Bd) rfl (by kernel_rfl) (by kernel_rfl) (by kernel_rfl) (by kernel_rfl) (fun _ _ _ h => h) (.inl ⟨by kernel_rfl, fun V hV => by go_simp⟩) hHeld ?_
        try simp only [Act.put, List.setIfInBounds_toArray, List.set_cons_zero, List.set_cons_succ]
        refine take_slotC (i := 2) (d := some 43) (v := .int .i64 Bd) rfl (by kernel_rfl) (by kernel_rfl) (by kernel_rfl) (by kernel_rfl) (fun _ _ _ h => h) (.inl ⟨by kernel_rfl, fun V hV => by go_simp⟩) hHeld ?_
        try simp only [Act.put, List.setIfInBounds_toArray, List.set_cons_zero, List.set_cons_succ]
        refine take_slotC (i := 4) (d := some 45) (v := .int .i64 S0) rfl (by kernel_rfl) (by kernel_rfl) (by kernel_rfl) (by kernel_rfl) (fun _ _ _ h => h) (.inl ⟨by kernel_rfl, fun V hV => by go_simp⟩) hHeld ?_
        try simp only [Act.put, List.setIfInBounds_toArray, List.set_cons_zero, List.set_cons_succ]
        refine take_slotC (i := 5) (d := some 46) (v := .pointer (some ⟨w.heap.size, 0, none⟩)) rfl (by kernel_rfl) (by kernel_rfl) (by kernel_rfl) (by kernel_rfl) (fun _ _ _ h => h) (.inl ⟨by kernel_rfl, fun V hV => by go_simp⟩) hHeld ?_
        try simp only [Act.put, List.setIfInBounds_toArray, List.set_cons_zero, List.set_cons_succ]
        refine take_slotC (i := 6) (d := some 47) (v := .int .i64 d) rfl (by kernel_rfl) (by kernel_rfl) (by kernel_rfl) (by kernel_rfl) (fun _ _ _ h => h) (.inl ⟨by kernel_rfl, fun V hV => by go_simp⟩) hHeld ?_
        try simp only [Act.put, List.setIfInBounds_toArray, List.set_cons_zero, List.set_cons_succ]
        refine take_slotC (i := 7) (d := some 48) (v := .int .i64 (f : Int)) rfl (by kernel_rfl) (by kernel_rfl) (by kernel_rfl) (by kernel_rfl) (fun _ _ _ h => h) (.inl ⟨by kernel_rfl, fun V hV => by go_simp⟩) hHeld ?_
        try simp only [Act.put, List.setIfInBounds_toArray, List.set_cons_zero, List.set_cons_succ]
        refine take_slotC (i := 8) (d := some 49) (v := .int .i64 (d + (f : Int))) rfl (by kernel_rfl) (by kernel_rfl) (by kernel_rfl) (by kernel_rfl) (fun _ _ _ h => h) (.inl ⟨by kernel_rfl, fun V hV => by go_simp⟩) hHeld ?_
        try simp only [Act.put, List.setIfInBounds_toArray, List.set_cons_zero, List.set_cons_succ]
        refine take_slotC (i := 9) (d := some 50) (v := .int .i64 ((d + (f : Int)) % 4)) rfl (by kernel_rfl) (by kernel_rfl) (by kernel_rfl) (by kernel_rfl) (fun _ _ _ h => h) (.inl ⟨by kernel_rfl, fun V hV => by go_simp⟩) hHeld ?_
        try simp only [Act.put, List.setIfInBounds_toArray, List.set_cons_zero, List.set_cons_succ]
        refine wpAnyH_ready (rs := [1]) (by kernel_rfl) (by simp) (AllReadyH.cons (i := 1) rfl (fun K' hK' => ?_) AllReadyH.nil)
        go_simp
        refine (spec_LevelOf Bd _).mono ?_
        rw [← HL.out]
        rintro e w' ⟨rfl, rfl⟩
        refine hK'.out _ _ hq0 (fun hHeld => ?_)
        clear hK'
        refine wpAnyH_ready (rs := [3]) (by kernel_rfl) (by simp) (AllReadyH.cons (i := 3) rfl (fun K' hK' => ?_) AllReadyH.nil)
        go_simp
        refine (spec_StrainOf Bd _).mono ?_
        rw [← HST.out]
        rintro e w' ⟨rfl, rfl⟩
        refine hK'.out _ _ hq0 (fun hHeld => ?_)
        clear hK'
        refine wpAnyH_ready (rs := [10]) (by kernel_rfl) (by simp) (AllReadyH.cons (i := 10) rfl (fun K' hK' => ?_) AllReadyH.nil)
        go_simp
        refine hK'.out _ _ hq0 (fun hHeld => ?_)
        clear hK'
        refine wpAnyH_ready (rs := [11]) (by kernel_rfl) (by simp) (AllReadyH.cons (i := 11) rfl (fun K' hK' => ?_) AllReadyH.nil)
        refine step_of_wp7 rfl (wp_store_row 36 _ _ rfl (w.heap.size + 1) (conA L st S0 ((d + (f : Int)) % 4)) rfl rfl 36 (conA 0 0 0 0) HZd.out (con_info _ _ _ _) rfl (con_cells _ _ _ _) ?_)
        refine hK'.out _ _ hS2.out (fun hHeld => ?_)
        clear hK'
        refine wpAnyH_done (by kernel_rfl) ?_ _
        go_wp2_with fail
        refine bodyPost_ret (v := .agg (conA L st S0 ((d + (f : Int)) % 4))) (results_cell_row Try.results63 _ _ (w.heap.size + 1) 36 (conA L st S0 ((d + (f : Int)) % 4)) (0, 0) _ rfl ZS.out Try.underlying36 rfl (con_info _ _ _ _)) rfl ?_
        rw [← HLc.out, HC2'.out, HC3'.out, HD'.out]
        exact ⟨rfl, KS.out⟩

/-! ### ContractOf -/
def conB (d : Int) (zs : List Int) (n : Nat) : Int := if !(inB d 0 3 && validTo zs n) then 1 else if !overTo zs n then 5 else 0
def conZ (d : Int) (zs : List Int) (n : Nat) : Array Value := if conB d zs n = 0 then conA (conL zs n) (conS zs n) (conX zs n) (conD d zs n) else conA 0 0 0 0
set_option maxHeartbeats 3200000 in
theorem spec_ContractOf (d : Int) (A : Option Addr) (n c : Nat) (zs : List Int) (w : World) (h : Rp w A n zs) (hn : n ≤ 1048576) (hcap : n ≤ c) :
    Calls Try.prog 40 #[.agg #[.int .i64 d, .slice A n c]] w fun e w' => e = .returned (.tuple #[.agg (conZ d zs n), .int .i64 (conB d zs n)]) ∧ Chg w w' 0 0 := by
  have e1 : (w.alloc (.cells #[.int .i64 d, .slice A n c] 26)).heap.size = w.heap.size + 1 := by simp
  have B0 : Hid (ABox ((w.alloc (.cells #[.int .i64 d, .slice A n c] 26)).alloc (.cells #[.int .i64 0, .int .i64 0, .int .i64 0, .int .i64 0] 36)) w.heap.size d A n c) := (ABox.new w d A n c).still (Chg.of_alloc (w.alloc (.cells #[.int .i64 d, .slice A n c] 26)) (.cells (conA 0 0 0 0) 36) 0 0)
  have C0 : Hid (Chg w ((w.alloc (.cells #[.int .i64 d, .slice A n c] 26)).alloc (.cells #[.int .i64 0, .int .i64 0, .int .i64 0, .int .i64 0] 36)) 0 0) := (Chg.of_alloc w (.cells #[.int .i64 d, .slice A n c] 26) 0 0).trans (Chg.of_alloc (w.alloc (.cells #[.int .i64 d, .slice A n c] 26)) (.cells (conA 0 0 0 0) 36) 0 0)
  have Z0 := heap_alloc_new (w.alloc (.cells #[.int .i64 d, .slice A n c] 26)) (.cells (conA 0 0 0 0) 36)
  rw [e1] at Z0
  have HZ : Hid (((w.alloc (.cells #[.int .i64 d, .slice A n c] 26)).alloc (.cells #[.int .i64 0, .int .i64 0, .int .i64 0, .int .i64 0] 36)).heap[w.heap.size + 1]? = some (.cells (conA 0 0 0 0) 36 (0, 0))) := Z0
  have H := Lib.hid (h.still C0.out)
  have sz := Lib.hid (show ((w.alloc (.cells #[.int .i64 d, .slice A n c] 26)).alloc (.cells #[.int .i64 0, .int .i64 0, .int .i64 0, .int .i64 0] 36)).heap.size = w.heap.size + 2 by simp)
  have hgs := Lib.hid (show conB d zs n = if !(inB d 0 3 && validTo zs n) then 1 else if !overTo zs n then 5 else 0 from rfl)
  have HF := Lib.hid (show ∀ k : Int, k ≠ 0 → conB d zs n = k → conZ d zs n = conA 0 0 0 0 from fun k hk e => by unfold conZ; rw [e, if_neg hk])
  have HF0 := Lib.hid (show conB d zs n = 0 → conZ d zs n = conA (conL zs n) (conS zs n) (conX zs n) (conD d zs n) from fun e => by unfold conZ; rw [if_pos e])
  clear h e1 Z0
  go_enter Try.func40, Try.ntmps40
  go_wp2_with (refine wpList_load_row rfl 26 _ rfl w.heap.size rfl 26 #[.int .i64 d, .slice A n c] (0, 0) _ B0.out Try.underlying26 rfl (auc_info d A n c) ?_)
  generalize (w.alloc (.cells #[.int .i64 d, .slice A n c] 26)).alloc (.cells #[.int .i64 0, .int .i64 0, .int .i64 0, .int .i64 0] 36) = W at B0 C0 HZ H sz ⊢
  refine (spec_IsAuction d A n c zs _ H.out hn hcap).mono ?_
  rintro e w1 ⟨rfl, c1⟩
  have B1 := Lib.hid (B0.out.still c1)
  have hb1 := B1.out.c1
  have H1 := Lib.hid (H.out.still c1)
  have Z1 := Lib.hid ((c1.block (w.heap.size + 1) (by have := sz.out; omega) (.inr (Nat.zero_le _))).trans HZ.out)
  have C1 := Lib.hid (C0.out.trans c1)
  have sz1 := Lib.hid (show w.heap.size + 2 ≤ w1.heap.size by have := c1.size; have := sz.out; omega)
  clear c1 B0 HZ H C0 sz
  cases hv : inB d 0 3 && validTo zs n
  · have hk : Hid (conB d zs n = 1) := by show conB d zs n = 1; rw [hgs.out, hv]; rfl
    have ZS := Lib.hid (setRow_heap w1 (w.heap.size + 1) _ (conA 0 0 0 0) _ _ Z1.out)
    have KS := Lib.hid (C1.out.rowC (show w.heap.size ≤ w.heap.size + 1 by omega) (conA 0 0 0 0))
    go_wp2_with (refine wpList_store_row rfl 36 _ _ rfl (w.heap.size + 1) (conA 0 0 0 0) rfl rfl 36 (conA 0 0 0 0) Z1.out (con_info 0 0 0 0) rfl (con_cells 0 0 0 0) ?_)
    refine bodyPost_ret (v := .tuple #[.agg (conA 0 0 0 0), .int .i64 1]) (results_row_tmp Try.results40 _ _ (w.heap.size + 1) 36 (conA 0 0 0 0) (0, 0) _ _ rfl rfl ZS.out Try.underlying36 rfl (con_info 0 0 0 0)) rfl ?_
    rw [HF.out 1 (by omega) hk.out, hk.out]
    exact ⟨rfl, KS.out⟩
  · have hd : 0 ≤ d ∧ d ≤ 3 := by simp [inB] at hv; exact hv.1
    go_wp2_with fail
    refine (l07Over A n c zs _ H1.out hn).mono ?_
    rintro e w' ⟨rfl, rfl⟩
    cases ho : overTo zs n
    · have hk : Hid (conB d zs n = 5) := by show conB d zs n = 5; rw [hgs.out, hv, ho]; rfl
      have ZS := Lib.hid (setRow_heap w1 (w.heap.size + 1) _ (conA 0 0 0 0) _ _ Z1.out)
      have KS := Lib.hid (C1.out.rowC (show w.heap.size ≤ w.heap.size + 1 by omega) (conA 0 0 0 0))
      go_wp2_with (refine wpList_store_row rfl 36 _ _ rfl (w.heap.size + 1) (conA 0 0 0 0) rfl rfl 36 (conA 0 0 0 0) Z1.out (con_info 0 0 0 0) rfl (con_cells 0 0 0 0) ?_)
      refine bodyPost_ret (v := .tuple #[.agg (conA 0 0 0 0), .int .i64 5]) (results_row_tmp Try.results40 _ _ (w.heap.size + 1) 36 (conA 0 0 0 0) (0, 0) _ _ rfl rfl ZS.out Try.underlying36 rfl (con_info 0 0 0 0)) rfl ?_
      rw [HF.out 5 (by omega) hk.out, hk.out]
      exact ⟨rfl, KS.out⟩
    · have hk : Hid (conB d zs n = 0) := by show conB d zs n = 0; rw [hgs.out, hv, ho]; rfl
      obtain ⟨R, hR⟩ : ∃ R, R = conZ d zs n := ⟨_, rfl⟩
      have HR := Lib.hid (hR.trans (HF0.out hk.out))
      have HRi := Lib.hid (show (Try.prog.info? 36).map (·.size) = some R.size by rw [HR.out]; exact con_info _ _ _ _)
      have HRz := Lib.hid (show R.size = 4 by rw [HR.out]; rfl)
      have HRc := Lib.hid (show R.all (·.oneCell') = true by rw [HR.out]; exact con_cells _ _ _ _)
      have HRR := Lib.hid hR
      clear hR
      go_wp2_with (refine wpList_load_row rfl 26 _ rfl w.heap.size rfl 26 #[.int .i64 d, .slice A n c] (0, 0) _ B1.out Try.underlying26 rfl (auc_info d A n c) ?_)
      refine (l07Contract d A n c zs _ H1.out hn hd).mono ?_
      rw [← HR.out]
      rintro e w2 ⟨rfl, c2⟩
      have Z2 := Lib.hid ((c2.block (w.heap.size + 1) (by have := sz1.out; omega) (.inr (Nat.zero_le _))).trans Z1.out)
      have ZS := Lib.hid (setRow_heap w2 (w.heap.size + 1) _ R _ _ Z2.out)
      have KS := Lib.hid ((C1.out.trans c2).rowC (show w.heap.size ≤ w.heap.size + 1 by omega) R)
      clear c2
      go_wp2_with (refine wpList_store_row rfl 36 _ _ rfl (w.heap.size + 1) R rfl rfl 36 (conA 0 0 0 0) Z2.out HRi.out (by rw [HRz.out]; rfl) HRc.out ?_)
      refine bodyPost_ret (v := .tuple #[.agg R, .int .i64 0]) (results_row_tmp Try.results40 _ _ (w.heap.size + 1) 36 R (0, 0) _ _ rfl rfl ZS.out Try.underlying36 rfl HRi.out) rfl ?_
      rw [← HRR.out, hk.out]
      exact ⟨rfl, KS.out⟩

/-! ### IsContract -/
def isConV (l s x d : Int) : Bool := (l == 0 && s == 0 && x == 0 && d == 0) || (inB l 1 7 && inB s 0 4 && inB x 0 2 && inB d 0 3)
theorem con_eq (l s x d : Int) (w : World) : (binOp .eql 36 (.agg (conA l s x d)) (.agg (conA 0 0 0 0))).run Try.prog w = .ok (.bool (l == 0 && s == 0 && x == 0 && d == 0)) w := by
  have hf : Try.prog.underlying 36 = some (.struct (Try.prog.fieldsOf 36)) := by unfold Program.fieldsOf; rw [Try.underlying36]
  rw [run_eql_struct, show (10000 : Nat) = 9999 + 1 from rfl, run_equalIn_struct w 9999 _ _ _ hf (by kernel_rfl)]
  have q0 : (part 2 (conA l s x d) 0).run Try.prog w = .ok (.int .i64 l) w := by kernel_rfl
  have q1 : (part 2 (conA l s x d) 1).run Try.prog w = .ok (.int .i64 s) w := by kernel_rfl
  have q2 : (part 2 (conA l s x d) 2).run Try.prog w = .ok (.int .i64 x) w := by kernel_rfl
  have q3 : (part 2 (conA l s x d) 3).run Try.prog w = .ok (.int .i64 d) w := by kernel_rfl
  have r0 : (part 2 (conA 0 0 0 0) 0).run Try.prog w = .ok (.int .i64 0) w := by kernel_rfl
  have r1 : (part 2 (conA 0 0 0 0) 1).run Try.prog w = .ok (.int .i64 0) w := by kernel_rfl
  have r2 : (part 2 (conA 0 0 0 0) 2).run Try.prog w = .ok (.int .i64 0) w := by kernel_rfl
  have r3 : (part 2 (conA 0 0 0 0) 3).run Try.prog w = .ok (.int .i64 0) w := by kernel_rfl
  have e (a : Int) : (Op.equalIn 9999 2 (.int .i64 a) (.int .i64 0)).run Try.prog w = .ok (a == 0) w := run_equalIn_int (P := Try.prog) w 9998 2 .i64 .i64 a 0 Try.underlying2
  unfold Program.fieldsOf
  rw [Try.underlying36]
  simp [Op.eqFields, q0, q1, q2, q3, r0, r1, r2, r3, e]
  by_cases h0 : l = 0 <;> by_cases h1 : s = 0 <;> by_cases h2 : x = 0 <;> by_cases h3 : d = 0 <;> simp [h0, h1, h2, h3]
set_option maxHeartbeats 3200000 in
theorem spec_IsContract (l s x d : Int) (w : World) : Calls Try.prog 42 #[.agg #[.int .i64 l, .int .i64 s, .int .i64 x, .int .i64 d]] w fun e w' => e = .returned (.bool (isConV l s x d)) ∧ Chg w w' 0 0 := by
  have hce : ∀ V : World, (binOp .eql 36 (.agg #[.int .i64 l, .int .i64 s, .int .i64 x, .int .i64 d]) (.agg #[.int .i64 0, .int .i64 0, .int .i64 0, .int .i64 0])).run Try.prog V = .ok (.bool (l == 0 && s == 0 && x == 0 && d == 0)) V := con_eq l s x d
  have C0 : Hid (Chg w (w.alloc (.cells #[.int .i64 l, .int .i64 s, .int .i64 x, .int .i64 d] 36)) 0 0) := Chg.of_alloc w (.cells (conA l s x d) 36) 0 0
  have hbx : Hid ((w.alloc (.cells #[.int .i64 l, .int .i64 s, .int .i64 x, .int .i64 d] 36)).heap[w.heap.size]? = some (.cells #[.int .i64 l, .int .i64 s, .int .i64 x, .int .i64 d] 36 (0, 0))) := heap_alloc_new w _
  by_cases l0 : l = 0
  · subst l0
    have hi : inB 0 1 7 = false := inB_false (by omega)
    by_cases s0 : s = 0
    · subst s0
      by_cases x0 : x = 0
      · subst x0
        by_cases d0 : d = 0
        · subst d0
          go_enter Try.func42, Try.ntmps42
          go_wp2_with (refine wpList_load_row rfl 36 _ rfl w.heap.size rfl 36 _ (0, 0) _ hbx.out Try.underlying36 rfl (by kernel_rfl) ?_)
          go_ret
          exact ⟨rfl, C0.out⟩
        · have db : (d == 0) = false := by simpa using d0
          have hr : Hid (isConV 0 0 0 d = false) := by show _ = _; unfold isConV; rw [hi, db]; rfl
          clear d0
          go_enter Try.func42, Try.ntmps42
          go_wp2_with (first | (refine wpList_load_row rfl 36 _ rfl w.heap.size rfl 36 _ (0, 0) _ hbx.out Try.underlying36 rfl (by kernel_rfl) ?_) | (go_at_call 59; refine (l01In _ _ _ _).mono ?_; rintro e w' ⟨rfl, rfl⟩))
          go_ret
          exact ⟨ret_bool hr.out.symm, C0.out⟩
      · have db : (x == 0) = false := by simpa using x0
        have hr : Hid (isConV 0 0 x d = false) := by show _ = _; unfold isConV; rw [hi, db]; simp
        clear x0
        go_enter Try.func42, Try.ntmps42
        go_wp2_with (first | (refine wpList_load_row rfl 36 _ rfl w.heap.size rfl 36 _ (0, 0) _ hbx.out Try.underlying36 rfl (by kernel_rfl) ?_) | (go_at_call 59; refine (l01In _ _ _ _).mono ?_; rintro e w' ⟨rfl, rfl⟩))
        go_ret
        exact ⟨ret_bool hr.out.symm, C0.out⟩
    · have db : (s == 0) = false := by simpa using s0
      have hr : Hid (isConV 0 s x d = false) := by show _ = _; unfold isConV; rw [hi, db]; simp
      clear s0
      go_enter Try.func42, Try.ntmps42
      go_wp2_with (first | (refine wpList_load_row rfl 36 _ rfl w.heap.size rfl 36 _ (0, 0) _ hbx.out Try.underlying36 rfl (by kernel_rfl) ?_) | (go_at_call 59; refine (l01In _ _ _ _).mono ?_; rintro e w' ⟨rfl, rfl⟩))
      go_ret
      exact ⟨ret_bool hr.out.symm, C0.out⟩
  · have lb : (l == 0) = false := by simpa using l0
    have hr : Hid (isConV l s x d = (inB l 1 7 && inB s 0 4 && inB x 0 2 && inB d 0 3)) := by show _ = _; unfold isConV; rw [lb]; simp
    clear l0
    cases h1 : inB l 1 7
    · have hr' : Hid (isConV l s x d = false) := by show _ = _; rw [hr.out, h1]; rfl
      go_enter Try.func42, Try.ntmps42
      go_wp2_with (first | (refine wpList_load_row rfl 36 _ rfl w.heap.size rfl 36 _ (0, 0) _ hbx.out Try.underlying36 rfl (by kernel_rfl) ?_) | (go_at_call 59; refine (l01In _ _ _ _).mono ?_; rintro e w' ⟨rfl, rfl⟩))
      go_ret
      exact ⟨ret_bool hr'.out.symm, C0.out⟩
    cases h2 : inB s 0 4
    · have hr' : Hid (isConV l s x d = false) := by show _ = _; rw [hr.out, h1, h2]; rfl
      go_enter Try.func42, Try.ntmps42
      go_wp2_with (first | (refine wpList_load_row rfl 36 _ rfl w.heap.size rfl 36 _ (0, 0) _ hbx.out Try.underlying36 rfl (by kernel_rfl) ?_) | (go_at_call 59; refine (l01In _ _ _ _).mono ?_; rintro e w' ⟨rfl, rfl⟩))
      go_ret
      exact ⟨ret_bool hr'.out.symm, C0.out⟩
    cases h3 : inB x 0 2
    · have hr' : Hid (isConV l s x d = false) := by show _ = _; rw [hr.out, h1, h2, h3]; rfl
      go_enter Try.func42, Try.ntmps42
      go_wp2_with (first | (refine wpList_load_row rfl 36 _ rfl w.heap.size rfl 36 _ (0, 0) _ hbx.out Try.underlying36 rfl (by kernel_rfl) ?_) | (go_at_call 59; refine (l01In _ _ _ _).mono ?_; rintro e w' ⟨rfl, rfl⟩))
      go_ret
      exact ⟨ret_bool hr'.out.symm, C0.out⟩
    have hr' : Hid (isConV l s x d = inB d 0 3) := by show _ = _; rw [hr.out, h1, h2, h3]; rfl
    go_enter Try.func42, Try.ntmps42
    go_wp2_with (first | (refine wpList_load_row rfl 36 _ rfl w.heap.size rfl 36 _ (0, 0) _ hbx.out Try.underlying36 rfl (by kernel_rfl) ?_) | (go_at_call 59; refine (l01In _ _ _ _).mono ?_; rintro e w' ⟨rfl, rfl⟩))
    go_ret
    exact ⟨ret_bool hr'.out.symm, C0.out⟩

end Go.Proofs.Ytnkbcmkngghnoaa.Lib1
