/- Chapter 8: the law FnTrickCount. (Written by wip/gen8w.py.) -/
import Derived.Test.YteglffbeldlibaaPw8
import Derived.Test.YteglffbeldlibaaLists3
import Derived.Test.YteglffbeldlibaaDs8
namespace Go.Proofs.Yteglffbeldlibaa.Lib1
open Go.RowKit
set_option maxRecDepth 100000

/-- The sum of the first k numbers. -/
def sumK8 (zs : List Int) : Nat → Int
  | 0 => 0
  | k + 1 => sumK8 zs k + zs.getD k 0
theorem sumK8_rng {zs : List Int} {B : Int} (hB : 0 ≤ B) (h : ∀ j, j < zs.length → 0 ≤ zs.getD j 0 ∧ zs.getD j 0 ≤ B) : ∀ k, k ≤ zs.length → 0 ≤ sumK8 zs k ∧ sumK8 zs k ≤ B * k
  | 0, _ => by simp [sumK8]
  | k + 1, hk => by
    have ih := sumK8_rng hB h k (by omega)
    have := h k (by omega)
    rw [sumK8, show B * ((k + 1 : Nat) : Int) = B * (k : Int) + B by rw [Int.natCast_add]; simp [Int.mul_add]]
    omega
set_option maxHeartbeats 1600000 in
/-- laws.w5Sum -/
theorem w5Sum (A : Option Addr) (n c : Nat) (zs : List Int) (w : World) (h : Rd w 0 w.heap.size A n zs) (hn : n ≤ 1000) (hz : ∀ j, j < n → 0 ≤ zs.getD j 0 ∧ zs.getD j 0 ≤ 1000) :
    Calls Try.prog 35 #[.slice A n c] w fun e w' => e = .returned (.int .i64 (sumK8 zs n)) ∧ Chg w w' 0 0 := by
  have hl := h.1
  have hr : Hid (∀ k, k ≤ n → 0 ≤ sumK8 zs k ∧ sumK8 zs k ≤ 1000 * k) := Lib.hid fun k hk => sumK8_rng (by omega) (fun j hj => hz j (by omega)) k (by omega)
  go_enter Try.func35, Try.ntmps35
  go_wp2
  go_loopw [3, 4] (fun s i wr => ∃ (j : Nat), j ≤ n ∧ i = .int .i64 j ∧ s = .int .i64 (sumK8 zs j) ∧ Hid (Chg w wr 0 0)) (fun _ i _ => n - (intOf i).toNat)
  case atStart => exact ⟨0, Nat.zero_le _, rfl, rfl, Lib.hid (Chg.refl _ _ _)⟩
  case round =>
    obtain ⟨j, hj, rfl, rfl, hch⟩ := hrel
    by_cases hlt : j < n
    · obtain ⟨b, off, rfl, _, _, hc⟩ := (h.still hch.out).2 (by omega)
      have q1 := hc j hlt
      have hjl : (j : Int) < (n : Int) := by omega
      have hch2 := Lib.hid (hch.out.trans (Chg.drewN wr 1 0 0))
      have e1 : sumK8 zs (j + 1) = sumK8 zs j + zs.getD j 0 := rfl
      have r1 := hr.out (j + 1) (by omega)
      rw [e1] at r1
      have HE := Lib.hid e1
      clear hc e1
      generalize zs.getD j 0 = z at q1 HE r1
      obtain ⟨S, hS⟩ : ∃ S, S = sumK8 zs j := ⟨_, rfl⟩
      rw [← hS] at HE r1 ⊢
      have wS : IntKind.i64.wrap (S + z) = S + z := IntWalk.i64_in _ (by omega)
      clear hS
      go_wp2
      go_roundw
      all_goals first
        | exact ⟨j + 1, by omega, by go_num, by rw [HE.out], hch⟩
        | exact ⟨j + 1, by omega, by go_num, by rw [HE.out], hch2⟩
        | (simp [intOf]; omega)
    · obtain rfl : j = n := by omega
      go_wp2
      go_ret
      exact ⟨rfl, hch.out⟩
/-- The tricks of East and West, out of the leaders. -/
def eastK8 (st ld : Int) (cs : List Int) : Nat → Int
  | 0 => 0
  | j + 1 => eastK8 st ld cs j + leadT st ld cs (j + 1) % 2
theorem cnt_east8 {st ld : Int} (h : 0 ≤ ld ∧ ld ≤ 3) (cs : List Int) : ∀ m, cntS st ld cs 1 m = eastK8 st ld cs m ∧ cntS st ld cs 0 m + cntS st ld cs 1 m = (m : Int)
  | 0 => by simp [cntS, eastK8]
  | j + 1 => by
    obtain ⟨h1, h2⟩ := cnt_east8 h cs j
    have hr := leadT_rng (st := st) h cs (j + 1)
    have hm : leadT st ld cs (j + 1) % 2 = 0 ∨ leadT st ld cs (j + 1) % 2 = 1 := by omega
    rw [cntS, cntS, eastK8, h1]
    rw [h1] at h2
    rcases hm with e | e <;> rw [e] <;> simp <;> omega
theorem win_rot8 {st x k : Int} (t : Nat → Int) (n : Nat) : winV st ((x + k) % 4) t n = (winV st x t n + k) % 4 := by unfold winV; omega
theorem lead_rot8 (st ld k : Int) (cs : List Int) : ∀ j, leadT st ((ld + k) % 4) cs j = if j = 0 then (ld + k) % 4 else (leadT st ld cs j + k) % 4
  | 0 => rfl
  | j + 1 => by
    rw [if_neg (Nat.succ_ne_zero j), leadT, lead_rot8 st ld k cs j, leadT]
    by_cases h : j = 0
    · subst h; rw [if_pos rfl]; exact win_rot8 _ _
    · rw [if_neg h]; exact win_rot8 _ _
theorem lead_rot {ld : Int} (st k : Int) (cs : List Int) (j : Nat) : leadT st ((ld + k) % 4) cs j = (leadT st ld cs j + k) % 4 := by
  rw [lead_rot8]
  by_cases h : j = 0
  · subst h; rw [if_pos rfl]; rfl
  · rw [if_neg h]
theorem turn_rot (st ld k : Int) (cs : List Int) : turnL st ((ld + k) % 4) cs = (turnL st ld cs + k) % 4 := by unfold turnL; rw [lead_rot]; omega
theorem rotTo_getD {zss : List (List Int)} {k : Int} : ∀ {n s : Nat}, s < n → (rotTo zss k n).getD s [] = rotRow zss k s
  | 0, _, h => absurd h (Nat.not_lt_zero _)
  | n + 1, s, h => by
    rw [rotTo]
    by_cases e : s = n
    · subst e; simp [List.getD, rotTo_length]
    · rw [← rotTo_getD (n := n) (s := s) (by omega)]
      simp [List.getD, List.getElem?_append, rotTo_length, show s < n by omega]
theorem row_rot {zss : List (List Int)} {k t : Int} (hk : 0 ≤ k ∧ k ≤ 3) (ht : 0 ≤ t ∧ t ≤ 3) : (rotTo zss k 4).getD ((t + k) % 4).toNat [] = zss.getD t.toNat [] := by
  rw [rotTo_getD (by omega)]
  unfold rotRow
  congr 1
  omega
theorem legL_rot {zss : List (List Int)} {st ld k : Int} (hk : 0 ≤ k ∧ k ≤ 3) (cs : List Int) : legL (rotTo zss k 4) st ((ld + k) % 4) cs = legL zss st ld cs := by
  unfold legL
  rw [turn_rot, row_rot hk (turnL_rng st ld cs)]
theorem playTo_rot {zss : List (List Int)} {st ld k : Int} (hk : 0 ≤ k ∧ k ≤ 3) (cs : List Int) : ∀ n, playTo (rotTo zss k 4) st ((ld + k) % 4) cs n = playTo zss st ld cs n
  | 0 => rfl
  | n + 1 => by rw [playTo, playTo, playTo_rot hk cs n, legL_rot hk]
theorem plain_rot {st ld k : Int} {cs : List Int} (h : plainB st ld cs = true) : plainB st ((ld + k) % 4) cs = true := by
  unfold plainB at h ⊢
  simp only [Bool.and_eq_true] at h ⊢
  exact ⟨h.1, h.2.1, inB_true ⟨by omega, by omega⟩, h.2.2.2⟩
theorem play_rot {zss : List (List Int)} {st ld k : Int} {cs : List Int} (hk : 0 ≤ k ∧ k ≤ 3) (h : playB zss st ld cs = true) : playB (rotV zss k) st ((ld + k) % 4) cs = true := by
  unfold playB at h ⊢
  simp only [Bool.and_eq_true] at h ⊢
  obtain ⟨⟨h1, h2⟩, h3⟩ := h
  rw [(rotV_yes h1 hk.1 hk.2).1]
  exact ⟨⟨deal_turns h1 hk.1 hk.2, plain_rot h2⟩, by rw [playTo_rot hk]; exact h3⟩
theorem cnt_rot (st ld k : Int) (cs : List Int) {s s' : Int} (hs : s' = (s + k) % 2) (h0 : s = 0 ∨ s = 1) : ∀ m, cntS st ((ld + k) % 4) cs s m = cntS st ld cs s' m
  | 0 => rfl
  | m + 1 => by
    rw [cntS, cntS, cnt_rot st ld k cs hs h0 m, lead_rot]
    congr 1
    have : (leadT st ld cs (m + 1) + k) % 4 % 2 = s ↔ leadT st ld cs (m + 1) % 2 = s' := by omega
    by_cases h : leadT st ld cs (m + 1) % 2 = s'
    · rw [if_pos h, if_pos (this.2 h)]
    · rw [if_neg h, if_neg (fun e => h (this.1 e))]
theorem u64_pos (z : Int) : 0 ≤ IntKind.u64.wrap z := by
  have h : 0 ≤ z % (2 ^ IntKind.u64.bits : Int) := Int.emod_nonneg _ (by decide)
  unfold IntKind.wrap
  have hs : IntKind.u64.signed = false := rfl
  simp only [hs, Bool.false_and, Bool.false_eq_true, if_false]
  exact h
set_option maxHeartbeats 1600000 in
theorem w5Pick (A : Option Addr) (n c : Nat) (k m : Int) (w : World) (h : Bytes w A n) (hn : n ≤ 1048576) (hm : 0 < m ∧ m ≤ 1000) :
    Calls Try.prog 38 #[.slice A n c, .int .i64 k, .int .i64 m] w fun e w' => ∃ r : Int, e = .returned (.int .i64 r) ∧ 0 ≤ r ∧ r < m ∧ Chg w w' 0 0 := by
  go_enter Try.func38, Try.ntmps38
  go_wp2
  generalize IntKind.u64.wrap (1469598103934665603 + IntKind.u64.wrap (IntKind.u64.wrap k * 7919)) = y0
  generalize IntKind.u64.wrap (IntKind.u64.wrap k * 7919) = y1
  generalize IntKind.u64.wrap k = y2
  go_loopw [7, 8] (fun u i wr => ∃ (j : Nat) (y : Int), j ≤ n ∧ i = .int .i64 j ∧ u = .int .u64 y ∧ Hid (Chg w wr 0 0)) (fun _ i _ => n - (intOf i).toNat)
  case atStart => exact ⟨0, _, Nat.zero_le _, rfl, rfl, Chg.refl _ _ _⟩
  case round =>
    obtain ⟨j, y, hj, rfl, rfl, hch⟩ := hrel
    by_cases hlt : j < n
    · obtain ⟨b, off, rfl, hbl, hc⟩ := h (by omega)
      obtain ⟨x, x0, x1, hx⟩ := hc j hlt
      have hx' : wr.cell? ⟨b, off + j, none⟩ = some (.int .u8 x) := by rw [World.cell?_of_block (hch.out.block b hbl (.inr (Nat.zero_le _)))]; exact hx
      have hjl : (j : Int) < (n : Int) := by omega
      have hch2 := Lib.hid (hch.out.trans (Chg.drewN wr 1 0 0))
      clear hc hx
      go_wp2
      go_roundw
      all_goals first
        | exact ⟨j + 1, _, by omega, by go_num, rfl, hch⟩
        | exact ⟨j + 1, _, by omega, by go_num, rfl, hch2⟩
        | (simp [intOf]; omega)
    · obtain rfl : j = n := by omega
      go_wp2
      go_ret
      have hX : 0 ≤ bits BinOp.xor IntKind.u64 y (y / 536870912) := u64_pos _
      generalize bits BinOp.xor IntKind.u64 y (y / 536870912) = X at hX
      have h1 : 0 ≤ X.tmod 1000003 ∧ X.tmod 1000003 < 1000003 := ⟨Int.tmod_nonneg _ hX, Int.tmod_lt_of_pos _ (by omega)⟩
      generalize X.tmod 1000003 = Y at h1
      have h2 : wrap64 Y = Y := by unfold wrap64; omega
      exact ⟨(wrap64 Y).tmod m, rfl, by rw [h2]; exact Int.tmod_nonneg _ h1.1, Int.tmod_lt_of_pos _ hm.1, hch.out⟩
theorem Rd.keep8 {w w' : World} {lo n : Nat} {A : Option Addr} {zs : List Int} (h : Rd w lo w.heap.size A n zs) (c : Chg w w' 0 0) : Rd w' 0 w'.heap.size A n zs := (h.chg c (.inr (Nat.zero_le _))).more (Nat.zero_le _) c.size
theorem Rd.at8 {w : World} {lo hi b n k : Nat} {zs : List Int} (h : Rd w lo hi (some ⟨b, 0, none⟩) n zs) (hk : k < n) : w.cell? ⟨b, k, none⟩ = some (.int .i64 (zs.getD k 0)) := by
  obtain ⟨b', off, e, _, _, hc⟩ := h.2 (by omega)
  injection e with e
  injection e with e1 e2 _
  subst e1; subst e2
  have := hc k hk
  rwa [Nat.zero_add] at this
theorem Rd.at0 {w : World} {lo hi b n : Nat} {zs : List Int} {x : Int} (h : Rd w lo hi (some ⟨b, 0, none⟩) n zs) (hk : 0 < n) (hx : zs.getD 0 0 = x) : w.cell? ⟨b, 0, none⟩ = some (.int .i64 x) := by rw [h.at8 hk, hx]
theorem quo48 (m : Nat) : Int.tdiv (m : Int) 4 = ((m / 4 : Nat) : Int) := by rw [Int.tdiv_eq_ediv_of_nonneg (by omega)]; omega
theorem east_rng8 {st ld : Int} (h : 0 ≤ ld ∧ ld ≤ 3) (cs : List Int) : ∀ m, 0 ≤ eastK8 st ld cs m ∧ eastK8 st ld cs m ≤ (m : Int)
  | 0 => by simp [eastK8]
  | j + 1 => by
    have ih := east_rng8 (st := st) h cs j
    have hr := leadT_rng (st := st) h cs (j + 1)
    rw [eastK8]
    omega
set_option maxHeartbeats 8000000 in
theorem law_FnTrickCount (A : Option Addr) (n c : Nat) (w : World) (h : Bytes w A n) :
    Calls Try.prog 5 #[.slice A n c] w fun e w' => e = .returned (.bool true) ∧ Below w.heap.size w w' := by
  by_cases hn : 4096 < n
  · have hb := Lib.hid (decide_eq_true hn)
    go_enter Try.func5, Try.ntmps5
    go_wp2_with fail
    refine (big _ _ _ _).mono ?_
    rintro e w' ⟨rfl, rfl⟩
    rw [hb.out]
    go_wp2_with fail
    go_ret
    exact ⟨rfl, Below.refl _ _⟩
  · have hb := Lib.hid (decide_eq_false hn)
    go_enter Try.func5, Try.ntmps5
    go_wp2_with fail
    refine (big _ _ _ _).mono ?_
    rintro e w' ⟨rfl, rfl⟩
    rw [hb.out]
    go_wp2_with fail
    refine (DrawTrickLeaders A n c _ h (by omega)).mono ?_
    rintro e w1 ⟨st, ld, D, m, cp, us, rfl, hm, hcap, _, hrd, b1⟩
    clear h hb
    have HUM := Lib.hid hrd.1
    obtain ⟨g, hg⟩ : ∃ g, g = w1.heap.size := ⟨_, rfl⟩
    have HB0 := Lib.hid (SBox.new w1 29 #[.int .i64 0, .int .i64 0, .slice none 0 0])
    have ca := Chg.of_alloc w1 (.cells #[.int .i64 0, .int .i64 0, .slice none 0 0] 29) 0 0
    rw [← hg] at HB0
    have k1 := chgr8 (w1.alloc (.cells #[.int .i64 0, .int .i64 0, .slice none 0 0] 29)) g #[.int .i64 st, .int .i64 ld, .slice D m cp]
    have HP := Lib.hid (show SBox _ _ _ _ from setRow_heap _ g _ #[.int .i64 st, .int .i64 ld, .slice D m cp] _ _ HB0.out)
    have R1 := Lib.hid (((hrd.chg ca (.inr (Nat.zero_le _))).chg k1 (.inl (by omega))).more (Nat.zero_le _) (Nat.le_trans ca.size k1.size))
    have K1 := Lib.hid ((Chg.above b1 ca b1.size (.inr rfl)).trans (rowB (w1.alloc (.cells #[.int .i64 0, .int .i64 0, .slice none 0 0] 29)) (g := g) (by have := b1.size; omega) #[.int .i64 st, .int .i64 ld, .slice D m cp]))
    have HG := Lib.hid hg
    clear hg ca k1 hrd b1
    go_wp2_with (first | (rw [← HG.out]; refine wpList_store_row rfl 29 _ _ rfl g #[.int .i64 st, .int .i64 ld, .slice D m cp] rfl rfl 29 #[.int .i64 0, .int .i64 0, .slice none 0 0] HB0.out (play_info _ _ _ _ _) rfl (play_cells _ _ _ _ _) ?_) | (refine wpList_load_row rfl 29 _ rfl g rfl 29 #[.int .i64 st, .int .i64 ld, .slice D m cp] (0, 0) _ HP.out Try.underlying29 rfl (play_info _ _ _ _ _) ?_))
    generalize ((w1.alloc (.cells #[.int .i64 0, .int .i64 0, .slice none 0 0] 29)).setRow g #[.int .i64 st, .int .i64 ld, .slice D m cp]) = W2 at HP R1 K1 ⊢
    clear HG HB0
    refine (impl_TrickLeaders st ld D m cp us W2 R1.out (by omega) hcap).mono ?_
    rintro e w3 ⟨v, rfl, o1, b3⟩
    obtain ⟨L, lc, rfl, hlc, _, ow1⟩ := o1.form
    have OL := Lib.hid ow1
    have c3 := Chg.of_below b3 0 0
    have HP := Lib.hid (HP.out.still c3)
    have R1 := Lib.hid (R1.out.keep8 c3)
    have K1 := Lib.hid (Chg.above K1.out c3 K1.out.size (.inr rfl))
    clear o1 b3 ow1 c3
    obtain ⟨q, hq⟩ : ∃ q, q = (leadV st ld us).length := ⟨_, rfl⟩
    rw [← hq] at OL hlc ⊢
    have HQ := Lib.hid hq
    clear hq
    go_wp2_with (refine wpList_load_row rfl 29 _ rfl g rfl 29 #[.int .i64 st, .int .i64 ld, .slice D m cp] (0, 0) _ HP.out Try.underlying29 rfl (play_info _ _ _ _ _) ?_)
    refine (impl_TricksOfSides st ld D m cp us w3 R1.out (by omega) hcap).mono ?_
    rintro e w4 ⟨v, rfl, o1, b3⟩
    obtain ⟨S, sc, rfl, hsc, _, ow1⟩ := o1.form
    have OS := Lib.hid ow1
    have c3 := Chg.of_below b3 0 0
    have HP := Lib.hid (HP.out.still c3)
    have R1 := Lib.hid (R1.out.keep8 c3)
    have OL := Lib.hid (OL.out.still c3)
    have K1 := Lib.hid (Chg.above K1.out c3 K1.out.size (.inr rfl))
    have hz34 := c3.size
    clear o1 b3 ow1 c3
    obtain ⟨p, hp⟩ : ∃ p, p = (tricksV st ld us).length := ⟨_, rfl⟩
    rw [← hp] at OS hsc ⊢
    have HPL := Lib.hid hp
    clear hp
    go_wp2_with (refine wpList_load_row rfl 29 _ rfl g rfl 29 #[.int .i64 st, .int .i64 ld, .slice D m cp] (0, 0) _ HP.out Try.underlying29 rfl (play_info _ _ _ _ _) ?_)
    refine (spec_IsPlainPlay st ld D m cp us 0 _ w4 R1.out (by omega) hcap).mono ?_
    rintro e w5 ⟨rfl, c3⟩
    have HP := Lib.hid (HP.out.still c3)
    have RL0 := Lib.hid ((OL.out.still c3).rd.more (Nat.zero_le _) (Nat.le_trans hz34 c3.size))
    have RS0 := Lib.hid ((OS.out.still c3).rd.more (Nat.zero_le _) c3.size)
    have OL := Lib.hid (OL.out.still c3)
    have OS := Lib.hid (OS.out.still c3)
    have K1 := Lib.hid (Chg.above K1.out c3 K1.out.size (.inr rfl))
    clear c3 R1
    cases hpl : plainB st ld us
    · have e1 : q = 0 := by rw [HQ.out]; unfold leadV; rw [hpl]; rfl
      have e2 : p = 0 := by rw [HPL.out]; unfold tricksV; rw [hpl]; rfl
      subst e1; subst e2
      go_wp2_with fail
      go_ret
      exact ⟨rfl, K1.out⟩
    · obtain ⟨_, _, hldr, _⟩ := plain_parts hpl
      obtain ⟨u, hu⟩ : ∃ u, u = m / 4 := ⟨_, rfl⟩
      have hu13 : u ≤ 13 := by omega
      have EL := Lib.hid (show leadV st ld us = leadL st ld us (u + 1) by unfold leadV; rw [hpl, HUM.out, hu]; rfl)
      have ET := Lib.hid (show tricksV st ld us = [cntS st ld us 0 u, cntS st ld us 1 u] by unfold tricksV; rw [hpl, HUM.out, hu]; rfl)
      have HCE := Lib.hid (cnt_east8 (st := st) hldr us u)
      have HQ4 := Lib.hid (show Int.tdiv (m : Int) 4 = (u : Int) by rw [quo48, hu])
      have HR0 := Lib.hid (cntS_rng st ld us 0 u)
      have HR1 := Lib.hid (cntS_rng st ld us 1 u)
      rw [EL.out] at OL RL0 HQ
      rw [ET.out] at OS RS0 HPL
      obtain rfl : q = u + 1 := by rw [HQ.out, leadL_len]
      obtain rfl : p = 2 := HPL.out
      obtain ⟨lb, _, rfl, _, _, _, _⟩ := OL.out.2 (by omega)
      obtain ⟨sb, _, rfl, _, _, _, _⟩ := OS.out.2 (by omega)
      have HL0 := Lib.hid (show (leadL st ld us (u + 1)).getD 0 0 = ld from leadL_at (by omega))
      have HLR : Hid (∀ j, j < u + 1 → (leadL st ld us (u + 1)).getD j 0 = leadT st ld us j ∧ 0 ≤ leadT st ld us j ∧ leadT st ld us j ≤ 3) := Lib.hid fun j hj => ⟨leadL_at hj, leadT_rng hldr us j⟩
      obtain ⟨x0, hx0⟩ : ∃ x, x = cntS st ld us 0 u := ⟨_, rfl⟩
      obtain ⟨x1, hx1⟩ : ∃ x, x = cntS st ld us 1 u := ⟨_, rfl⟩
      rw [← hx0, ← hx1] at RS0 HCE
      have HX1 := Lib.hid hx1
      have hx01 : ∀ j, j < 2 → 0 ≤ ([x0, x1] : List Int).getD j 0 ∧ ([x0, x1] : List Int).getD j 0 ≤ 1000 := fun j hj => by
        match j, hj with
        | 0, _ => have := HR0.out; show 0 ≤ x0 ∧ x0 ≤ 1000; rw [hx0]; omega
        | 1, _ => have := HR1.out; show 0 ≤ x1 ∧ x1 ≤ 1000; rw [hx1]; omega
      have HSUM := Lib.hid (show sumK8 [x0, x1] 2 = (u : Int) by show 0 + x0 + x1 = _; have := HCE.out.2; omega)
      have hq4 := HQ4.out
      have wu : IntKind.i64.wrap ((u : Int) + 1) = (u : Int) + 1 := IntWalk.i64_in _ (by omega)
      have p2 := HP.out.p2
      have cd : Chg w5 w5.drew 0 0 := Chg.of_drew ⟨1, rfl⟩ 0 0
      have hS0 : w5.drew.cell? ⟨lb, 0, none⟩ = some (.int .i64 ld) ∧ w5.drew.cell? ⟨g, 1, none⟩ = some (.int .i64 ld) := ⟨RL0.out.at0 (by omega) HL0.out, HP.out.p1⟩
      clear hu hx0 hx1 EL ET OL OS HQ HPL HR0 HR1 HQ4 hpl
      go_wp2_with fail
      have HP := Lib.hid (HP.out.still cd)
      have RL := Lib.hid (RL0.out.keep8 cd)
      have RS := Lib.hid (RS0.out.keep8 cd)
      have K1 := Lib.hid (Chg.above K1.out cd K1.out.size (.inr rfl))
      clear cd p2 RL0 RS0 hq4
      refine wp_region_held_drew (S := fun V => V.cell? ⟨lb, 0, none⟩ = some (.int .i64 ld) ∧ V.cell? ⟨g, 1, none⟩ = some (.int .i64 ld)) (by kernel_rfl) hS0 (fun hHeld => ?_)
      generalize w5.drew = W5 at HP RL RS K1 hHeld ⊢
      refine take_slotC (i := 0) (d := some 32) (v := .slice (some ⟨sb, 0, none⟩) 2 sc) rfl (by kernel_rfl) (by kernel_rfl) (by kernel_rfl) (by kernel_rfl) (fun _ _ _ h => h) (.inl ⟨by kernel_rfl, fun V hV => by obtain ⟨hV1, hV2⟩ := hV; go_simp⟩) hHeld ?_
      try simp only [Act.put, List.setIfInBounds_toArray, List.set_cons_zero, List.set_cons_succ]
      refine take_slotC (i := 1) (d := some 33) (v := .int .i64 2) rfl (by kernel_rfl) (by kernel_rfl) (by kernel_rfl) (by kernel_rfl) (fun _ _ _ h => h) (.inl ⟨by kernel_rfl, fun V hV => by obtain ⟨hV1, hV2⟩ := hV; go_simp⟩) hHeld ?_
      try simp only [Act.put, List.setIfInBounds_toArray, List.set_cons_zero, List.set_cons_succ]
      refine take_slotC (i := 2) (d := some 34) (v := .bool false) rfl (by kernel_rfl) (by kernel_rfl) (by kernel_rfl) (by kernel_rfl) (fun _ _ _ h => h) (.inl ⟨by kernel_rfl, fun V hV => by obtain ⟨hV1, hV2⟩ := hV; go_simp⟩) hHeld ?_
      try simp only [Act.put, List.setIfInBounds_toArray, List.set_cons_zero, List.set_cons_succ]
      refine take_slotC (i := 3) (d := some 35) (v := .bool false) rfl (by kernel_rfl) (by kernel_rfl) (by kernel_rfl) (by kernel_rfl) (fun _ _ _ h => h) (.inl ⟨by kernel_rfl, fun V hV => by obtain ⟨hV1, hV2⟩ := hV; go_simp⟩) hHeld ?_
      try simp only [Act.put, List.setIfInBounds_toArray, List.set_cons_zero, List.set_cons_succ]
      refine take_slotC (i := 4) (d := some 36) (v := .slice (some ⟨sb, 0, none⟩) 2 sc) rfl (by kernel_rfl) (by kernel_rfl) (by kernel_rfl) (by kernel_rfl) (fun _ _ _ h => h) (.inl ⟨by kernel_rfl, fun V hV => by obtain ⟨hV1, hV2⟩ := hV; go_simp⟩) hHeld ?_
      try simp only [Act.put, List.setIfInBounds_toArray, List.set_cons_zero, List.set_cons_succ]
      refine take_slotC (i := 6) (d := some 38) (v := .int .i64 (u : Int)) rfl (by kernel_rfl) (by kernel_rfl) (by kernel_rfl) (by kernel_rfl) (fun _ _ _ h => h) (.inl ⟨by kernel_rfl, fun V hV => by obtain ⟨hV1, hV2⟩ := hV; go_simp⟩) hHeld ?_
      try simp only [Act.put, List.setIfInBounds_toArray, List.set_cons_zero, List.set_cons_succ]
      refine wpAnyH_ready (rs := [5]) (by kernel_rfl) (by simp) (AllReadyH.cons (i := 5) rfl (fun K' hK' => ?_) AllReadyH.nil)
      go_simp
      refine (w5Sum _ 2 sc [x0, x1] W5 RS.out (by omega) hx01).mono ?_
      rintro e w6 ⟨rfl, c6⟩
      rw [HSUM.out]
      have hS6 := And.intro ((RL.out.keep8 c6).at0 (by omega) HL0.out) (HP.out.still c6).p1
      have HP := Lib.hid (HP.out.still c6)
      have RL := Lib.hid (RL.out.keep8 c6)
      have RS := Lib.hid (RS.out.keep8 c6)
      have K1 := Lib.hid (Chg.above K1.out c6 K1.out.size (.inr rfl))
      refine hK'.out _ _ hS6 (fun hHeld => ?_)
      clear hK'
      try simp only [Act.put, List.setIfInBounds_toArray, List.set_cons_zero, List.set_cons_succ]
      refine take_slotC (i := 7) (d := some 39) (v := .bool false) rfl (by kernel_rfl) (by kernel_rfl) (by kernel_rfl) (by kernel_rfl) (fun _ _ _ h => h) (.inl ⟨by kernel_rfl, fun V hV => by obtain ⟨hV1, hV2⟩ := hV; go_simp⟩) hHeld ?_
      try simp only [Act.put, List.setIfInBounds_toArray, List.set_cons_zero, List.set_cons_succ]
      refine take_slotC (i := 8) (d := some 40) (v := .bool false) rfl (by kernel_rfl) (by kernel_rfl) (by kernel_rfl) (by kernel_rfl) (fun _ _ _ h => h) (.inl ⟨by kernel_rfl, fun V hV => by obtain ⟨hV1, hV2⟩ := hV; go_simp⟩) hHeld ?_
      try simp only [Act.put, List.setIfInBounds_toArray, List.set_cons_zero, List.set_cons_succ]
      refine take_slotC (i := 9) (d := some 41) (v := .bool false) rfl (by kernel_rfl) (by kernel_rfl) (by kernel_rfl) (by kernel_rfl) (fun _ _ _ h => h) (.inl ⟨by kernel_rfl, fun V hV => by obtain ⟨hV1, hV2⟩ := hV; go_simp⟩) hHeld ?_
      try simp only [Act.put, List.setIfInBounds_toArray, List.set_cons_zero, List.set_cons_succ]
      refine take_slotC (i := 10) (d := some 42) (v := .slice (some ⟨lb, 0, none⟩) (u + 1) lc) rfl (by kernel_rfl) (by kernel_rfl) (by kernel_rfl) (by kernel_rfl) (fun _ _ _ h => h) (.inl ⟨by kernel_rfl, fun V hV => by obtain ⟨hV1, hV2⟩ := hV; go_simp⟩) hHeld ?_
      try simp only [Act.put, List.setIfInBounds_toArray, List.set_cons_zero, List.set_cons_succ]
      refine take_slotC (i := 11) (d := some 43) (v := .int .i64 ((u : Int) + 1)) rfl (by kernel_rfl) (by kernel_rfl) (by kernel_rfl) (by kernel_rfl) (fun _ _ _ h => h) (.inl ⟨by kernel_rfl, fun V hV => by obtain ⟨hV1, hV2⟩ := hV; go_simp⟩) hHeld ?_
      try simp only [Act.put, List.setIfInBounds_toArray, List.set_cons_zero, List.set_cons_succ]
      refine take_slotC (i := 12) (d := some 44) (v := .int .i64 (u : Int)) rfl (by kernel_rfl) (by kernel_rfl) (by kernel_rfl) (by kernel_rfl) (fun _ _ _ h => h) (.inl ⟨by kernel_rfl, fun V hV => by obtain ⟨hV1, hV2⟩ := hV; go_simp⟩) hHeld ?_
      try simp only [Act.put, List.setIfInBounds_toArray, List.set_cons_zero, List.set_cons_succ]
      refine take_slotC (i := 13) (d := some 45) (v := .int .i64 ((u : Int) + 1)) rfl (by kernel_rfl) (by kernel_rfl) (by kernel_rfl) (by kernel_rfl) (fun _ _ _ h => h) (.inl ⟨by kernel_rfl, fun V hV => by obtain ⟨hV1, hV2⟩ := hV; go_simp⟩) hHeld ?_
      try simp only [Act.put, List.setIfInBounds_toArray, List.set_cons_zero, List.set_cons_succ]
      refine take_slotC (i := 14) (d := some 46) (v := .bool false) rfl (by kernel_rfl) (by kernel_rfl) (by kernel_rfl) (by kernel_rfl) (fun _ _ _ h => h) (.inl ⟨by kernel_rfl, fun V hV => by obtain ⟨hV1, hV2⟩ := hV; go_simp⟩) hHeld ?_
      try simp only [Act.put, List.setIfInBounds_toArray, List.set_cons_zero, List.set_cons_succ]
      refine take_slotC (i := 15) (d := some 47) (v := .bool false) rfl (by kernel_rfl) (by kernel_rfl) (by kernel_rfl) (by kernel_rfl) (fun _ _ _ h => h) (.inl ⟨by kernel_rfl, fun V hV => by obtain ⟨hV1, hV2⟩ := hV; go_simp⟩) hHeld ?_
      try simp only [Act.put, List.setIfInBounds_toArray, List.set_cons_zero, List.set_cons_succ]
      refine take_slotC (i := 16) (d := some 48) (v := .bool false) rfl (by kernel_rfl) (by kernel_rfl) (by kernel_rfl) (by kernel_rfl) (fun _ _ _ h => h) (.inl ⟨by kernel_rfl, fun V hV => by obtain ⟨hV1, hV2⟩ := hV; go_simp⟩) hHeld ?_
      try simp only [Act.put, List.setIfInBounds_toArray, List.set_cons_zero, List.set_cons_succ]
      refine take_slotC (i := 17) (d := some 49) (v := .slice (some ⟨lb, 0, none⟩) (u + 1) lc) rfl (by kernel_rfl) (by kernel_rfl) (by kernel_rfl) (by kernel_rfl) (fun _ _ _ h => h) (.inl ⟨by kernel_rfl, fun V hV => by obtain ⟨hV1, hV2⟩ := hV; go_simp⟩) hHeld ?_
      try simp only [Act.put, List.setIfInBounds_toArray, List.set_cons_zero, List.set_cons_succ]
      refine take_slotC (i := 18) (d := some 50) (v := .pointer (some ⟨lb, 0, none⟩)) rfl (by kernel_rfl) (by kernel_rfl) (by kernel_rfl) (by kernel_rfl) (fun _ _ _ h => h) (.inl ⟨by kernel_rfl, fun V hV => by obtain ⟨hV1, hV2⟩ := hV; go_simp⟩) hHeld ?_
      try simp only [Act.put, List.setIfInBounds_toArray, List.set_cons_zero, List.set_cons_succ]
      refine take_slotC (i := 19) (d := some 51) (v := .int .i64 ld) rfl (by kernel_rfl) (by kernel_rfl) (by kernel_rfl) (by kernel_rfl) (fun _ _ _ h => h) (.inl ⟨by kernel_rfl, fun V hV => by obtain ⟨hV1, hV2⟩ := hV; go_simp⟩) hHeld ?_
      try simp only [Act.put, List.setIfInBounds_toArray, List.set_cons_zero, List.set_cons_succ]
      refine take_slotC (i := 20) (d := some 52) (v := .pointer (some ⟨g, 1, none⟩)) rfl (by kernel_rfl) (by kernel_rfl) (by kernel_rfl) (by kernel_rfl) (fun _ _ _ h => h) (.inl ⟨by kernel_rfl, fun V hV => by obtain ⟨hV1, hV2⟩ := hV; go_simp⟩) hHeld ?_
      try simp only [Act.put, List.setIfInBounds_toArray, List.set_cons_zero, List.set_cons_succ]
      refine take_slotC (i := 21) (d := some 53) (v := .int .i64 ld) rfl (by kernel_rfl) (by kernel_rfl) (by kernel_rfl) (by kernel_rfl) (fun _ _ _ h => h) (.inl ⟨by kernel_rfl, fun V hV => by obtain ⟨hV1, hV2⟩ := hV; go_simp⟩) hHeld ?_
      try simp only [Act.put, List.setIfInBounds_toArray, List.set_cons_zero, List.set_cons_succ]
      refine take_slotC (i := 22) (d := some 54) (v := .bool false) rfl (by kernel_rfl) (by kernel_rfl) (by kernel_rfl) (by kernel_rfl) (fun _ _ _ h => h) (.inl ⟨by kernel_rfl, fun V hV => by obtain ⟨hV1, hV2⟩ := hV; go_simp⟩) hHeld ?_
      try simp only [Act.put, List.setIfInBounds_toArray, List.set_cons_zero, List.set_cons_succ]
      refine take_slotC (i := 23) (d := some 55) (v := .bool false) rfl (by kernel_rfl) (by kernel_rfl) (by kernel_rfl) (by kernel_rfl) (fun _ _ _ h => h) (.inl ⟨by kernel_rfl, fun V hV => by obtain ⟨hV1, hV2⟩ := hV; go_simp⟩) hHeld ?_
      try simp only [Act.put, List.setIfInBounds_toArray, List.set_cons_zero, List.set_cons_succ]
      refine wpAnyH_done (by kernel_rfl) ?_ _
      go_wp2_with fail
      go_loopw [7, 8] (fun s i wr => ∃ k j : Nat, j ≤ u ∧ Hid (k = j + 1) ∧ i = .int .i64 (k : Int) ∧ s = .int .i64 (eastK8 st ld us j) ∧ Hid (Chg w6 wr 0 0)) (fun _ i _ => (u + 1) - (intOf i).toNat)
      case atStart => exact ⟨1, 0, Nat.zero_le _, rfl, rfl, rfl, Lib.hid (Chg.refl _ _ _)⟩
      case round =>
        obtain ⟨k, j, hj, hkj, rfl, rfl, hch⟩ := hrel
        by_cases hlt : k < u + 1
        · have hkl : (k : Int) < (u : Int) + 1 := by omega
          obtain ⟨hx, y0, y3⟩ := HLR.out k hlt
          have q1 := (RL.out.keep8 hch.out).at8 hlt
          have r1 := east_rng8 (st := st) hldr us j
          have HE := Lib.hid (show eastK8 st ld us (j + 1) = eastK8 st ld us j + leadT st ld us k % 2 by rw [hkj.out]; rfl)
          rw [hx] at q1
          generalize leadT st ld us k = x at q1 y0 y3 HE
          obtain ⟨E, hE⟩ : ∃ E, E = eastK8 st ld us j := ⟨_, rfl⟩
          rw [← hE] at r1 HE ⊢
          have e2 : Int.tmod x 2 = x % 2 := Int.tmod_eq_emod_of_nonneg y0
          have wS : IntKind.i64.wrap (E + x % 2) = E + x % 2 := IntWalk.i64_in _ (by omega)
          have wk : IntKind.i64.wrap ((k : Int) + 1) = (k : Int) + 1 := IntWalk.i64_in _ (by omega)
          have n0 : ¬ x < 0 := by omega
          have n3 : ¬ 3 < x := by omega
          have hch2 := Lib.hid (hch.out.trans (Chg.drewN wr 1 0 0))
          have HK2 := Lib.hid (show k + 1 = j + 1 + 1 by have := hkj.out; omega)
          have hj2 : j + 1 ≤ u := by have := hkj.out; omega
          clear hE hkj hx y0 y3 HLR HCE
          go_wp2
          go_roundw
          all_goals first
            | exact ⟨k + 1, j + 1, hj2, HK2, by go_num, by rw [HE.out], hch⟩
            | exact ⟨k + 1, j + 1, hj2, HK2, by go_num, by rw [HE.out], hch2⟩
            | (simp [intOf]; omega)
        · have hk2 := hkj.out
          obtain rfl : j = u := by omega
          have hkl : ¬ (k : Int) < (j : Int) + 1 := by omega
          have q1 := (RS.out.keep8 hch.out).at8 (k := 1) (by omega)
          rw [show ([x0, x1] : List Int).getD 1 0 = x1 from rfl] at q1
          have HE := Lib.hid HCE.out.1.symm
          have K2 := Lib.hid (Chg.above K1.out hch.out K1.out.size (.inr rfl))
          clear HCE HLR hk2 hkj
          go_wp2
          go_ret
          exact ⟨by rw [HE.out]; simp, K2.out⟩
end Go.Proofs.Yteglffbeldlibaa.Lib1
