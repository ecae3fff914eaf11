/- Chapter 8, the model: a deal and a play of it, drawn. (Written by wip/gen8t.py.) -/
import Derived.Test.YteglffbeldlibaaDd8
import Derived.Test.YteglffbeldlibaaPlayA8
namespace Go.Proofs.Yteglffbeldlibaa.Lib1
open Go.RowKit
set_option maxRecDepth 100000

theorem chgr8 (w : World) (g : Nat) (cs : Array Value) : Chg w (w.setRow g cs) g (g + 1) := ⟨rfl, rfl, rfl, by rw [setRow_size]; exact Nat.le_refl _, fun k _ hq => setRow_other w g k cs (by omega)⟩
/-- A write to a block of the call's own is none to what stood before. -/
theorem chg_to8 {w a b : World} {g h : Nat} (h1 : Chg w a g (g + 1)) (h2 : Chg a b h (h + 1)) (hh : w.heap.size ≤ h) : Chg w b g (g + 1) :=
  ⟨h2.os.trans h1.os, h2.tape.trans h1.tape, h2.output.trans h1.output, Nat.le_trans h1.size h2.size, fun k hk hq => (h2.block k (Nat.lt_of_lt_of_le hk h1.size) (.inl (by omega))).trans (h1.block k hk hq)⟩
theorem OwnV.parts8 {w : World} {base : Nat} {A : Option Addr} {m c : Nat} {zs : List Int} (h : OwnV w base (.slice A m c) zs) : zs.length = m ∧ m ≤ c ∧ (A = none → c = 0) ∧ Rd w 0 w.heap.size A m zs := by
  obtain ⟨A', c', e, h1, h2, h3⟩ := h.form
  injection e with e1 e2 e3
  subst e1; subst e2; subst e3
  refine ⟨rfl, h1, fun q => ?_, h3.rd.more (Nat.zero_le _) (Nat.le_refl _)⟩
  rcases h2 with ⟨_, q2⟩ | ⟨b, off, q2⟩
  · exact q2
  · rw [q] at q2; cases q2
theorem play_congr8 {zss : List (List Int)} {st ld : Int} {us vs : List Int} : ∀ {k : Nat}, k ≤ us.length → us.take k = vs.take k → k ≤ vs.length → playTo zss st ld us k = playTo zss st ld vs k
  | 0, _, _, _ => rfl
  | k + 1, h1, h2, h3 => by
    have e := congrArg (List.take k) h2
    rw [List.take_take, List.take_take, Nat.min_eq_left (Nat.le_succ k)] at e
    have e2 : us.getD k 0 = vs.getD k 0 := by
      have := congrArg (fun l => l.getD k 0) h2
      simpa [List.getD, List.getElem?_take] using this
    rw [playTo, playTo, play_congr8 (by omega) e (by omega), e, e2]
theorem play_snoc8 {zss : List (List Int)} {st ld x : Int} {us : List Int} (h : playTo zss st ld us us.length = true) (hx : hasB (legL zss st ld us) x = true) : playTo zss st ld (us ++ [x]) (us ++ [x]).length = true := by
  rw [List.length_append]
  show playTo zss st ld (us ++ [x]) (us.length + 1) = true
  rw [playTo, play_congr8 (vs := us) (by simp) (by simp) (Nat.le_refl _), h, Bool.true_and, List.take_left' rfl]
  rw [show (us ++ [x]).getD us.length 0 = x by simp [List.getD]]
  exact hx
theorem legL_pos8 {zss : List (List Int)} {st ld : Int} {us : List Int} (hd : dealB zss = true) (hl : 0 ≤ ld ∧ ld ≤ 3) (h : playTo zss st ld us us.length = true) (hn : us.length < 4 * (zss.getD 0 []).length) : 0 < (legL zss st ld us).length := by
  have hc := left_count (st := st) hd hl (Nat.le_refl us.length) h
  rw [List.take_length] at hc
  have hr := leadT_rng (st := st) hl us (us.length / 4)
  obtain ⟨L, hL⟩ : ∃ L : Nat, leadT st ld us (us.length / 4) = (L : Int) := ⟨_, (Int.toNat_of_nonneg hr.1).symm⟩
  obtain ⟨t, hT⟩ : ∃ t : Nat, turnL st ld us = (t : Int) := ⟨_, (Int.toNat_of_nonneg (turnL_rng st ld _).1).symm⟩
  have et : (t : Int) = ((L : Int) + ((us.length % 4 : Nat) : Int)) % 4 := by rw [← hT, ← hL]; rfl
  rw [hL, Int.toNat_natCast] at hc
  have ct := hc t (by omega)
  rw [if_neg (by omega)] at ct
  unfold legL
  rw [hT, Int.toNat_natCast]
  dsimp only
  split
  · omega
  · split
    · assumption
    · omega
theorem play_range8 {zss : List (List Int)} {st ld : Int} {us : List Int} (hd : dealB zss = true) : ∀ {k : Nat}, k ≤ us.length → playTo zss st ld us k = true → ∀ j, j < k → 0 ≤ us.getD j 0 ∧ us.getD j 0 ≤ 51
  | 0, _, _, j, hj => absurd hj (Nat.not_lt_zero _)
  | k + 1, hk, h, j, hj => by
    simp only [playTo, Bool.and_eq_true] at h
    by_cases e : j = k
    · subst e
      have hm := (List.mem_filter.1 (legL_sub h.2)).1
      have htr := turnL_rng st ld (us.take j)
      obtain ⟨i, hi, hv⟩ := List.getElem_of_mem hm
      have := (rows_ok hd (s := (turnL st ld (us.take j)).toNat) (by omega)).2 i hi
      rw [getD_at _ _ hi, hv] at this
      exact this
    · exact play_range8 hd (by omega) h.1 j (by omega)
theorem results_rows8 {P : Program} {fn : Func} {p q : Tmp} {t1 t2 : TypeId} (h : fn.results = #[.cell p t1, .cell q t2]) (tmps : Array Value) (w : World) (g g' : Nat) (cs cs' : Array Value) (d d' : TypeDesc)
    (hp : tmps.getD p undef = .pointer (some ⟨g, 0, none⟩)) (hq : tmps.getD q undef = .pointer (some ⟨g', 0, none⟩)) (hg : w.heap[g]? = some (.cells cs t1 (0, 0))) (hg' : w.heap[g']? = some (.cells cs' t2 (0, 0)))
    (hu : P.underlying t1 = some d) (hd : (match d with | .struct _ | .array _ _ => true | _ => false) = true) (hi : (P.info? t1).map (·.size) = some cs.size)
    (hu' : P.underlying t2 = some d') (hd' : (match d' with | .struct _ | .array _ _ => true | _ => false) = true) (hi' : (P.info? t2).map (·.size) = some cs'.size) :
    (results fn tmps).run P w = .ok (.tuple #[.agg cs, .agg cs']) w := by
  have hp' : tmps[p]?.getD undef = .pointer (some ⟨g, 0, none⟩) := by simpa using hp
  have hq' : tmps[q]?.getD undef = .pointer (some ⟨g', 0, none⟩) := by simpa using hq
  simp [results, h, hp', hq', asAddr, run_loadVar_row w g t1 t1 cs (0, 0) d hg hu hd hi, run_loadVar_row w g' t2 t2 cs' (0, 0) d' hg' hu' hd' hi']
theorem Chg.cell9 {w w' : World} {a : Addr} {v : Value} (c : Chg w w' 0 0) (h : w.cell? a = some v) : w'.cell? a = some v := by
  rw [World.cell?_of_block (c.block a.block (lt_of_cell h) (.inr (Nat.zero_le _)))]; exact h
theorem deal_info8 (v : Value) : (Try.prog.info? 26).map (·.size) = some (#[v] : Array Value).size := by kernel_rfl
theorem bldP08 (st ld : Int) : Try.prog.built 29 [(0, .int .i64 st), (1, .int .i64 ld)] = some #[.int .i64 st, .int .i64 ld, .slice none 0 0] := by kernel_rfl
theorem RdR.all8 {w : World} {lo hi n : Nat} {A : Option Addr} {zss : List (List Int)} (h : RdR w lo hi A n zss) : RdR w 0 w.heap.size A n zss := RdR.all h
theorem deal_infoLd (v : Value) : (Try.prog.info? 26).map (·.size) = some ([v] : List Value).length := by kernel_rfl
theorem deal_cells8 (v : Option Addr) (n c : Nat) : (#[.slice v n c] : Array Value).all (·.oneCell') = true := by kernel_rfl
/-- A deal and a play of it are drawn. -/
def DrewP8 (g : Nat) (w : World) (e : Ending) (w' : World) : Prop :=
  ∃ b c zss st ld A m cp us q, e = .returned (.tuple #[.agg #[.slice (some ⟨b, 0, none⟩) 4 c], .agg #[.int .i64 st, .int .i64 ld, .slice A m cp]]) ∧ 4 ≤ c ∧ OwnR w' w.heap.size q (some ⟨b, 0, none⟩) 4 zss ∧ dealB zss = true ∧ OwnV w' q (.slice A m cp) us ∧ (w.heap.size ≤ q ∧ q ≤ w'.heap.size) ∧ (0 ≤ st ∧ st ≤ 4) ∧ (0 ≤ ld ∧ ld ≤ 3) ∧ playTo zss st ld us us.length = true ∧ us.length ≤ 52 ∧ Src w' g ∧ Chg w w' g (g + 1)
set_option maxHeartbeats 8000000 in
/-- spec.l08Draw -/
theorem l08Draw (g : Nat) (most : Int) (w : World) (hsrc : Src w g) (h1 : 1 ≤ most) (h13 : most ≤ 13) : Calls Try.prog 114 #[.pointer (some ⟨g, 0, none⟩), .int .i64 most] w (DrewP8 g w) := by
  have hg := hsrc.lt
  have e1 : (w.alloc (.cells #[.slice none 0 0] 26)).heap.size = w.heap.size + 1 := by simp
  have a1 := Chg.of_alloc w (.cells #[.slice none 0 0] 26) 0 0
  have a2 := Chg.of_alloc (w.alloc (.cells #[.slice none 0 0] 26)) (.cells #[.int .i64 0, .int .i64 0, .slice none 0 0] 29) 0 0
  have x1 := (SBox.new w 26 #[.slice none 0 0]).still a2
  have x2 := SBox.new (w.alloc (.cells #[.slice none 0 0] 26)) 29 #[.int .i64 0, .int .i64 0, .slice none 0 0]
  rw [e1] at x2
  have H1 := Lib.hid x1
  have H2 := Lib.hid x2
  have HS := Lib.hid (hsrc.still (a1.trans a2))
  have HC := Lib.hid ((a1.trans a2).any g (g + 1))
  have HZ := Lib.hid x2.lt
  clear hsrc e1 a1 a2 x1 x2
  go_enter Try.func114, Try.ntmps114
  go_wp2_with fail
  generalize ((w.alloc (.cells #[.slice none 0 0] 26)).alloc (.cells #[.int .i64 0, .int .i64 0, .slice none 0 0] 29)) = W at H1 H2 HS HC HZ ⊢
  refine (l01Next g most W HS.out (by omega)).mono ?_
  rintro e w1 ⟨r, rfl, ⟨r0, r1⟩, s1, c1⟩
  have r2 := r1 h1
  have H1 := Lib.hid (H1.out.chg c1 (by omega))
  have H2 := Lib.hid (H2.out.chg c1 (by omega))
  have HS := Lib.hid s1
  have HC := Lib.hid (HC.out.trans c1)
  have HZ := Lib.hid (Nat.lt_of_lt_of_le HZ.out c1.size)
  clear s1 c1 r1
  obtain ⟨n, hn⟩ : ∃ n : Nat, 1 + r = (n : Int) := ⟨(1 + r).toNat, by omega⟩
  have hn13 : n ≤ 13 := by omega
  have hn1 : 1 ≤ n := by omega
  have hdr := Lib.hid (l03Draw8 g n w1 HS.out hn13)
  rw [← hn] at hdr
  clear hn
  go_wp2_with fail
  refine hdr.out.mono ?_
  rintro e w2 ⟨b, c, zss, rfl, hc4, _, ow, hrl, hdl, s2, c2⟩
  have HDL := Lib.hid hdl
  have HRL := Lib.hid hrl
  have HOW := Lib.hid ow
  have H1 := Lib.hid (H1.out.chg c2 (by omega))
  have H2 := Lib.hid (H2.out.chg c2 (by omega))
  have HS := Lib.hid s2
  have HC := Lib.hid (HC.out.trans c2)
  have HZ1 := Lib.hid HZ.out
  have HZ := Lib.hid (Nat.lt_of_lt_of_le HZ.out c2.size)
  have hz12 := Lib.hid c2.size
  clear ow hrl hdl s2 c2 hdr
  obtain ⟨db, hdb⟩ : ∃ db, db = w2.heap.size := ⟨_, rfl⟩
  have HB0 := Lib.hid (SBox.new w2 26 #[.slice none 0 0])
  have ka := Chg.of_alloc w2 (.cells #[.slice none 0 0] 26) 0 0
  rw [← hdb] at HB0
  have kr := chgr8 (w2.alloc (.cells #[.slice none 0 0] 26)) db #[.slice (some ⟨b, 0, none⟩) 4 c]
  have hwd : w.heap.size + 1 < db := by have := HZ.out; omega
  have HD := Lib.hid (show SBox ((w2.alloc (.cells #[.slice none 0 0] 26)).setRow db #[.slice (some ⟨b, 0, none⟩) 4 c]) 26 db #[.slice (some ⟨b, 0, none⟩) 4 c] from setRow_heap (w2.alloc (.cells #[.slice none 0 0] 26)) db _ #[.slice (some ⟨b, 0, none⟩) 4 c] _ _ HB0.out)
  have H1 := Lib.hid ((H1.out.still ka).chg kr (by omega))
  have H2 := Lib.hid ((H2.out.still ka).chg kr (by omega))
  have HS := Lib.hid ((HS.out.still ka).chg kr (.inl (by omega)))
  have HC := Lib.hid (chg_to8 (HC.out.trans (ka.any g (g + 1))) kr (by omega))
  have HR := Lib.hid (show OwnR ((w2.alloc (.cells #[.slice none 0 0] 26)).setRow db #[.slice (some ⟨b, 0, none⟩) 4 c]) (w.heap.size + 2) db (some ⟨b, 0, none⟩) 4 zss from ((HOW.out.still ka).chg kr (.inl (by omega))).more (by have := HZ1.out; omega) (by omega))
  have HZ := Lib.hid (show db + 1 ≤ ((w2.alloc (.cells #[.slice none 0 0] 26)).setRow db #[.slice (some ⟨b, 0, none⟩) 4 c]).heap.size by have := (SBox.lt HD.out); omega)
  have HDB := Lib.hid hdb
  clear ka kr hdb HOW HZ1 hz12
  go_wp2_with (rw [← HDB.out]; refine wpList_store_row rfl 26 _ _ rfl db #[.slice (some ⟨b, 0, none⟩) 4 c] rfl rfl 26 #[.slice none 0 0] HB0.out (deal_info8 _) rfl (deal_cells8 _ _ _) ?_)
  generalize ((w2.alloc (.cells #[.slice none 0 0] 26)).setRow db #[.slice (some ⟨b, 0, none⟩) 4 c]) = W3 at HD H1 H2 HS HC HR HZ ⊢
  clear HDB HB0
  refine (l01Next g 5 W3 HS.out (by omega)).mono ?_
  rintro e w3 ⟨st, rfl, ⟨st0, st1⟩, s1, c1⟩
  have st4 := st1 (by omega)
  have HD := Lib.hid (HD.out.chg c1 (by omega))
  have H1 := Lib.hid (H1.out.chg c1 (by omega))
  have H2 := Lib.hid (H2.out.chg c1 (by omega))
  have HR := Lib.hid (HR.out.chg c1 (.inr (by omega)))
  have HS := Lib.hid s1
  have HC := Lib.hid (HC.out.trans c1)
  have HZ := Lib.hid (Nat.le_trans HZ.out c1.size)
  clear s1 c1 st1
  go_wp2_with fail
  refine (l01Next g 4 w3 HS.out (by omega)).mono ?_
  rintro e w4 ⟨ld, rfl, ⟨ld0, ld1⟩, s1, c1⟩
  have ld3 := ld1 (by omega)
  have HD := Lib.hid (HD.out.chg c1 (by omega))
  have H1 := Lib.hid (H1.out.chg c1 (by omega))
  have H2 := Lib.hid (H2.out.chg c1 (by omega))
  have HR := Lib.hid (HR.out.chg c1 (.inr (by omega)))
  have HS := Lib.hid s1
  have HC := Lib.hid (HC.out.trans c1)
  have HZ := Lib.hid (Nat.le_trans HZ.out c1.size)
  clear s1 c1 ld1
  obtain ⟨pb, hpb⟩ : ∃ pb, pb = w4.heap.size := ⟨_, rfl⟩
  have HB0 := Lib.hid (SBox.new w4 29 #[.int .i64 0, .int .i64 0, .slice none 0 0])
  have ka := Chg.of_alloc w4 (.cells #[.int .i64 0, .int .i64 0, .slice none 0 0] 29) 0 0
  rw [← hpb] at HB0
  have kr := chgr8 (w4.alloc (.cells #[.int .i64 0, .int .i64 0, .slice none 0 0] 29)) pb #[.int .i64 st, .int .i64 ld, .slice none 0 0]
  have hdp : db < pb := by have := HZ.out; omega
  have HP := Lib.hid (show SBox ((w4.alloc (.cells #[.int .i64 0, .int .i64 0, .slice none 0 0] 29)).setRow pb #[.int .i64 st, .int .i64 ld, .slice none 0 0]) 29 pb #[.int .i64 st, .int .i64 ld, .slice none 0 0] from setRow_heap (w4.alloc (.cells #[.int .i64 0, .int .i64 0, .slice none 0 0] 29)) pb _ #[.int .i64 st, .int .i64 ld, .slice none 0 0] _ _ HB0.out)
  have HD := Lib.hid ((HD.out.still ka).chg kr (by omega))
  have H1 := Lib.hid ((H1.out.still ka).chg kr (by omega))
  have H2 := Lib.hid ((H2.out.still ka).chg kr (by omega))
  have HR := Lib.hid ((HR.out.still ka).chg kr (.inl (by omega)))
  have HS := Lib.hid ((HS.out.still ka).chg kr (.inl (by omega)))
  have HC := Lib.hid (chg_to8 (HC.out.trans (ka.any g (g + 1))) kr (by omega))
  have HZ := Lib.hid (show pb + 1 ≤ ((w4.alloc (.cells #[.int .i64 0, .int .i64 0, .slice none 0 0] 29)).setRow pb #[.int .i64 st, .int .i64 ld, .slice none 0 0]).heap.size by have := (SBox.lt HP.out); omega)
  have HPB := Lib.hid hpb
  have hbp := bldP08 st ld
  clear ka kr hpb
  have d0 : ((w4.alloc (.cells #[.int .i64 0, .int .i64 0, .slice none 0 0] 29)).setRow pb #[.int .i64 st, .int .i64 ld, .slice none 0 0]).cell? ⟨db, 0, none⟩ = some (.slice (some ⟨b, 0, none⟩) 4 c) := (HD.out.cell 0).trans rfl
  obtain ⟨b', off', B, C, eb, _, _, hc0, _, _, _⟩ := HR.out.rd.at_ (show 0 < 4 by omega)
  injection eb with eb
  injection eb with eb1 eb2 _
  subst eb1; subst eb2
  rw [HRL.out 0 (by omega), Nat.add_zero] at hc0
  have w14 : IntKind.i64.wrap (4 * (n : Int)) = 4 * (n : Int) := IntWalk.i64_in _ (by omega)
  have w15 : IntKind.i64.wrap (4 * (n : Int) + 1) = 4 * (n : Int) + 1 := IntWalk.i64_in _ (by omega)
  go_wp2_with (rw [← HPB.out]; refine wpList_store_row rfl 29 _ _ rfl pb #[.int .i64 st, .int .i64 ld, .slice none 0 0] rfl rfl 29 #[.int .i64 0, .int .i64 0, .slice none 0 0] HB0.out (play_info _ _ _ _ _) rfl (play_cells _ _ _ _ _) ?_)
  clear hbp
  generalize ((w4.alloc (.cells #[.int .i64 0, .int .i64 0, .slice none 0 0] 29)).setRow pb #[.int .i64 st, .int .i64 ld, .slice none 0 0]) = W5 at HP HD H1 H2 HS HC HR HZ d0 hc0 ⊢
  clear HPB HB0
  clear d0 hc0
  refine (l01Next g (4 * (n : Int) + 1) W5 HS.out (by omega)).mono ?_
  rintro e w6 ⟨k0, rfl, ⟨k00, k01⟩, s1, c1⟩
  have k02 := k01 (by omega)
  obtain ⟨kk, rfl⟩ : ∃ kk : Nat, k0 = (kk : Int) := ⟨k0.toNat, by omega⟩
  have hkk : kk ≤ 4 * n := by omega
  have HP := Lib.hid (HP.out.chg c1 (by omega))
  have HD := Lib.hid (HD.out.chg c1 (by omega))
  have H1 := Lib.hid (H1.out.chg c1 (by omega))
  have H2 := Lib.hid (H2.out.chg c1 (by omega))
  have HR := Lib.hid (HR.out.chg c1 (.inr (by omega)))
  have HS := Lib.hid s1
  have HC := Lib.hid (HC.out.trans c1)
  have HZ := Lib.hid (Nat.le_trans HZ.out c1.size)
  clear s1 c1 k00 k01 k02 w14 w15
  go_wp2_with fail
  go_loopw [8] (fun i wr => ∃ (k : Nat) (A : Option Addr) (m cp : Nat) (us : List Int), m + k ≤ 4 * n ∧ i = .int .i64 k ∧ Hid (SBox wr 26 db #[.slice (some ⟨b, 0, none⟩) 4 c]) ∧ Hid (SBox wr 29 pb #[.int .i64 st, .int .i64 ld, .slice A m cp]) ∧ Hid (SBox wr 26 w.heap.size #[.slice none 0 0]) ∧ Hid (SBox wr 29 (w.heap.size + 1) #[.int .i64 0, .int .i64 0, .slice none 0 0]) ∧
    Hid (OwnR wr (w.heap.size + 2) db (some ⟨b, 0, none⟩) 4 zss) ∧ Hid (OwnV wr (pb + 1) (.slice A m cp) us) ∧ Hid (Src wr g) ∧ Hid (Chg w wr g (g + 1)) ∧ Hid (pb + 1 ≤ wr.heap.size) ∧ Hid (playTo zss st ld us us.length = true) ∧ Hid (us.length = m)) (fun i _ => (intOf i).toNat)
  case atStart => exact ⟨kk, none, 0, 0, [], by omega, rfl, HD.out, HP.out, H1.out, H2.out, HR.out, OwnV.nil_ _ _, HS.out, HC.out, HZ.out, rfl, rfl⟩
  case round =>
    clear HD HP H1 H2 HR HS HC HZ
    obtain ⟨k, A, m, cp, us, hmk, rfl, HD, HP, H1, H2, HR, HO, HS, HC, HZ, HPT, HUM⟩ := hrel
    have hum := HUM.out
    by_cases hk0 : 0 < k
    · have hk0I : (0 : Int) < (k : Int) := by omega
      have hpos := legL_pos8 (st := st) (ld := ld) HDL.out ⟨ld0, by omega⟩ HPT.out (by rw [HRL.out 0 (by omega)]; omega)
      have hrng := play_range8 (st := st) (ld := ld) HDL.out (Nat.le_refl us.length) HPT.out
      have hlgc := Lib.hid (l08Legal (some ⟨b, 0, none⟩) 4 c zss st ld A m cp us wr HR.out.rd.all8 HDL.out (HO.out.parts8.2.2.2) (by omega) (HO.out.parts8.2.1) (fun j hj => hrng j (by omega)) ⟨ld0, by omega⟩)
      have hL13 : (legL zss st ld us).length ≤ 1048576 := by
        have := legL_len zss st ld us
        have := turnL_rng st ld us
        have := (rows_ok HDL.out (s := (turnL st ld us).toNat) (by omega)).1
        omega
      obtain ⟨L, hL⟩ : ∃ L, L = legL zss st ld us := ⟨_, rfl⟩
      rw [← hL] at hlgc hpos hL13
      have HLG := Lib.hid hL.symm
      have HLP := Lib.hid hpos
      have HLL := Lib.hid hL13
      clear hL hpos hL13 hrng
      go_wp2_with (first | (refine wpList_load_row rfl 26 _ rfl db rfl 26 #[.slice (some ⟨b, 0, none⟩) 4 c] (0, 0) _ HD.out Try.underlying26 rfl (deal_info8 _) ?_) | (refine wpList_load_row rfl 29 _ rfl pb rfl 29 #[.int .i64 st, .int .i64 ld, .slice A m cp] (0, 0) _ HP.out Try.underlying29 rfl (play_info _ _ _ _ _) ?_))
      refine hlgc.out.mono ?_
      rintro e w5 ⟨LA, lc, rfl, hlc, _, lo, c5⟩
      obtain ⟨lb, lcs, rfl, _, _, lbh, lcc⟩ := lo.2 HLP.out
      have cdd := c5.trans (Chg.of_drew (w' := w5.drew) ⟨1, rfl⟩ 0 0)
      have hS0 : ∀ j, j < L.length → w5.drew.cell? ⟨lb, j, none⟩ = some (.int .i64 (L.getD j 0)) := fun j hj => by
        rw [show w5.drew.cell? ⟨lb, j, none⟩ = w5.cell? ⟨lb, j, none⟩ from rfl, cell_of_row w5 lb j lcs _ _ lbh]; exact lcc j hj
      have hlbz : w.heap.size + 1 < lb ∨ True := .inr trivial
      have HD := Lib.hid (HD.out.still cdd)
      have HP := Lib.hid (HP.out.still cdd)
      have H1 := Lib.hid (H1.out.still cdd)
      have H2 := Lib.hid (H2.out.still cdd)
      have HR := Lib.hid (HR.out.still cdd)
      have HO := Lib.hid (HO.out.chg cdd (Nat.zero_le _))
      have HS := Lib.hid (HS.out.still cdd)
      have HC := Lib.hid (HC.out.trans (cdd.any g (g + 1)))
      have hlbw : pb + 1 ≤ lb := by have := HZ.out; omega
      have HZ := Lib.hid (Nat.le_trans HZ.out cdd.size)
      clear hlgc lo lbh lcc cdd c5 hlbz
      go_wp2_with fail
      refine wp_region_held_drew (S := fun V => ∀ j, j < L.length → V.cell? ⟨lb, j, none⟩ = some (.int .i64 (L.getD j 0))) (by kernel_rfl) hS0 (fun hHeld => ?_)
      generalize w5.drew = V5 at HD HP H1 H2 HR HO HS HC HZ hHeld ⊢
      refine take_slotC (i := 1) (d := some 38) (v := .slice (some ⟨lb, 0, none⟩) L.length lc) rfl (by kernel_rfl) (by kernel_rfl) (by kernel_rfl) (by kernel_rfl) (fun _ _ _ h => h) (.inl ⟨by kernel_rfl, fun V hV => by go_simp⟩) hHeld ?_
      try simp only [Act.put, List.setIfInBounds_toArray, List.set_cons_zero, List.set_cons_succ]
      refine take_slotC (i := 2) (d := some 39) (v := .pointer (some ⟨g, 0, none⟩)) rfl (by kernel_rfl) (by kernel_rfl) (by kernel_rfl) (by kernel_rfl) (fun _ _ _ h => h) (.inl ⟨by kernel_rfl, fun V hV => by go_simp⟩) hHeld ?_
      try simp only [Act.put, List.setIfInBounds_toArray, List.set_cons_zero, List.set_cons_succ]
      refine take_slotC (i := 3) (d := some 40) (v := .slice (some ⟨lb, 0, none⟩) L.length lc) rfl (by kernel_rfl) (by kernel_rfl) (by kernel_rfl) (by kernel_rfl) (fun _ _ _ h => h) (.inl ⟨by kernel_rfl, fun V hV => by go_simp⟩) hHeld ?_
      try simp only [Act.put, List.setIfInBounds_toArray, List.set_cons_zero, List.set_cons_succ]
      refine take_slotC (i := 4) (d := some 41) (v := .int .i64 (L.length : Int)) rfl (by kernel_rfl) (by kernel_rfl) (by kernel_rfl) (by kernel_rfl) (fun _ _ _ h => h) (.inl ⟨by kernel_rfl, fun V hV => by go_simp⟩) hHeld ?_
      try simp only [Act.put, List.setIfInBounds_toArray, List.set_cons_zero, List.set_cons_succ]
      refine wpAnyH_ready (rs := [0, 5]) (by kernel_rfl) (by simp) (AllReadyH.cons (i := 0) rfl (fun K' hK' => ?first) (AllReadyH.cons (i := 5) rfl (fun K' hK' => ?second) AllReadyH.nil))
      case' first =>
        refine step_of_wp7 rfl (wp_load_row 29 _ rfl pb rfl 29 #[.int .i64 st, .int .i64 ld, .slice A m cp] (0, 0) _ HP.out Try.underlying29 rfl (play_info _ _ _ _ _) ?_)
        refine hK'.out _ _ hHeld (fun hHeld => ?_)
        clear hK'
        try simp only [Act.put, List.setIfInBounds_toArray]
        refine wpAnyH_ready (rs := [5]) (by kernel_rfl) (by simp) (AllReadyH.cons (i := 5) rfl (fun K' hK' => ?_) AllReadyH.nil)
        go_simp
        refine (l01Next g (L.length : Int) V5 HS.out (by have := HLL.out; omega)).mono ?_
        rintro e w6 ⟨r, rfl, ⟨r0, r1⟩, s6, c6⟩
        have r2 := r1 (by have := HLP.out; omega)
        obtain ⟨q, rfl⟩ : ∃ q : Nat, r = (q : Int) := ⟨r.toNat, by omega⟩
        have hqL : q < L.length := by omega
        have HD := Lib.hid (HD.out.chg c6 (by omega))
        have HP := Lib.hid (HP.out.chg c6 (by omega))
        have H1 := Lib.hid (H1.out.chg c6 (by omega))
        have H2 := Lib.hid (H2.out.chg c6 (by omega))
        have HR := Lib.hid (HR.out.chg c6 (.inr (by omega)))
        have HO := Lib.hid (HO.out.chg c6 (by omega))
        have HS := Lib.hid s6
        have HC := Lib.hid (HC.out.trans c6)
        have HZ := Lib.hid (Nat.le_trans HZ.out c6.size)
        have hS6 : ∀ j, j < L.length → w6.cell? ⟨lb, j, none⟩ = some (.int .i64 (L.getD j 0)) := fun j hj => by rw [World.cell?_of_block (c6.block lb (lt_of_cell (hHeld j hj)) (.inr (by omega)))]; exact hHeld j hj
        clear s6 c6 r1 r2
        refine hK'.out _ _ hS6 (fun hHeld => ?_)
        clear hK'
        try simp only [Act.put, List.setIfInBounds_toArray, List.set_cons_zero, List.set_cons_succ]
        refine take_slotC (i := 6) (d := some 43) (v := .pointer (some ⟨lb, q, none⟩)) rfl (by kernel_rfl) (by kernel_rfl) (by kernel_rfl) (by kernel_rfl) (fun _ _ _ h => h) (.inl ⟨by kernel_rfl, fun V hV => by have hVq := hV q hqL; go_simp⟩) hHeld ?_
        try simp only [Act.put, List.setIfInBounds_toArray, List.set_cons_zero, List.set_cons_succ]
        refine take_slotC (i := 7) (d := some 44) (v := .int .i64 (L.getD q 0)) rfl (by kernel_rfl) (by kernel_rfl) (by kernel_rfl) (by kernel_rfl) (fun _ _ _ h => h) (.inl ⟨by kernel_rfl, fun V hV => by have hVq := hV q hqL; go_simp⟩) hHeld ?_
        try simp only [Act.put, List.setIfInBounds_toArray, List.set_cons_zero, List.set_cons_succ]
        have HXL : Hid (hasB L (L.getD q 0) = true) := hasB_yes hqL rfl
        generalize L.getD q 0 = x at HXL ⊢
        refine wpAnyH_ready (rs := [8]) (by kernel_rfl) (by simp) (AllReadyH.cons (i := 8) rfl (fun K' hK' => ?_) AllReadyH.nil)
        go_simp
        refine (l08Add st ld A m cp us x w6 (HO.out.parts8.2.2.2) (by omega) HO.out.parts8.2.2.1).mono ?_
        rintro e w7 ⟨u7, rfl, o7, b7⟩
        obtain ⟨A6, c6, hu6, hc6, hpl6, _⟩ := o7.form
        have hm6 : (us ++ [x]).length = m + 1 := by rw [List.length_append, HO.out.parts8.1]; rfl
        rw [hm6] at hu6 hc6
        subst hu6
        have k7 := Chg.of_below b7 0 0
        have HD := Lib.hid (HD.out.still k7)
        have HP := Lib.hid (HP.out.still k7)
        have H1 := Lib.hid (H1.out.still k7)
        have H2 := Lib.hid (H2.out.still k7)
        have HR := Lib.hid (HR.out.still k7)
        have HS := Lib.hid (HS.out.still k7)
        have HC := Lib.hid (HC.out.trans (k7.any g (g + 1)))
        have O7 := Lib.hid (o7.more HZ.out)
        have HZ := Lib.hid (Nat.le_trans HZ.out k7.size)
        have hS7 : ∀ j, j < L.length → w7.cell? ⟨lb, j, none⟩ = some (.int .i64 (L.getD j 0)) := fun j hj => k7.cell9 (hHeld j hj)
        clear o7 b7 k7
        refine hK'.out _ _ hS7 (fun hHeld => ?_)
        clear hK' hS7
        try simp only [Act.put, List.setIfInBounds_toArray]
        refine wpAnyH_ready (rs := [9]) (by kernel_rfl) (by simp) (AllReadyH.cons (i := 9) rfl (fun K' hK' => ?_) AllReadyH.nil)
        have HP9 := Lib.hid (setRow_heap w7 pb _ #[.int .i64 st, .int .i64 ld, .slice A6 (m + 1) c6] _ _ HP.out)
        have Cr := chgr8 w7 pb #[.int .i64 st, .int .i64 ld, .slice A6 (m + 1) c6]
        refine step_of_wp7 rfl (wp_store_row 29 _ _ rfl pb #[.int .i64 st, .int .i64 ld, .slice A6 (m + 1) c6] rfl rfl 29 #[.int .i64 st, .int .i64 ld, .slice A m cp] HP.out (play_info _ _ _ _ _) rfl (play_cells _ _ _ _ _) ?_)
        have HD := Lib.hid (HD.out.chg Cr (by omega))
        have H1 := Lib.hid (H1.out.chg Cr (by omega))
        have H2 := Lib.hid (H2.out.chg Cr (by omega))
        have HR := Lib.hid (HR.out.chg Cr (by omega))
        have HS := Lib.hid (HS.out.chg Cr (.inl (by omega)))
        have HC := Lib.hid (chg_to8 HC.out Cr (by omega))
        have HO := Lib.hid (O7.out.chg Cr (by omega))
        have HZ := Lib.hid (Nat.le_trans HZ.out Cr.size)
        have hS9 : ∀ j, j < L.length → (w7.setRow pb #[.int .i64 st, .int .i64 ld, .slice A6 (m + 1) c6]).cell? ⟨lb, j, none⟩ = some (.int .i64 (L.getD j 0)) := fun j hj => by rw [World.cell?_of_block (Cr.block lb (lt_of_cell (hHeld j hj)) (.inr (by omega)))]; exact hHeld j hj
        refine hK'.out _ _ hS9 (fun hHeld => ?_)
        clear hK' hHeld hS9 Cr O7 HP
        refine wpAnyH_done (by kernel_rfl) ?_ _
        have hpt := Lib.hid (play_snoc8 (x := x) HPT.out (by rw [HLG.out]; exact HXL.out))
        generalize (w7.setRow pb #[.int .i64 st, .int .i64 ld, .slice A6 (m + 1) c6]) = W9 at HD HP9 H1 H2 HR HS HC HO HZ ⊢
        go_wp2_with fail
        go_roundw
        case rel => exact ⟨k - 1, A6, m + 1, c6, us ++ [x], by omega, by congr 1; omega, HD, HP9, H1, H2, HR, HO, HS, HC, HZ, hpt, by show List.length _ = _; exact hm6⟩
        case measure => simp [intOf]; omega
      case' second =>
        go_simp
        refine (l01Next g (L.length : Int) V5 HS.out (by have := HLL.out; omega)).mono ?_
        rintro e w6 ⟨r, rfl, ⟨r0, r1⟩, s6, c6⟩
        have r2 := r1 (by have := HLP.out; omega)
        obtain ⟨q, rfl⟩ : ∃ q : Nat, r = (q : Int) := ⟨r.toNat, by omega⟩
        have hqL : q < L.length := by omega
        have HD := Lib.hid (HD.out.chg c6 (by omega))
        have HP := Lib.hid (HP.out.chg c6 (by omega))
        have H1 := Lib.hid (H1.out.chg c6 (by omega))
        have H2 := Lib.hid (H2.out.chg c6 (by omega))
        have HR := Lib.hid (HR.out.chg c6 (.inr (by omega)))
        have HO := Lib.hid (HO.out.chg c6 (by omega))
        have HS := Lib.hid s6
        have HC := Lib.hid (HC.out.trans c6)
        have HZ := Lib.hid (Nat.le_trans HZ.out c6.size)
        have hS6 : ∀ j, j < L.length → w6.cell? ⟨lb, j, none⟩ = some (.int .i64 (L.getD j 0)) := fun j hj => by rw [World.cell?_of_block (c6.block lb (lt_of_cell (hHeld j hj)) (.inr (by omega)))]; exact hHeld j hj
        clear s6 c6 r1 r2
        refine hK'.out _ _ hS6 (fun hHeld => ?_)
        clear hK'
        try simp only [Act.put, List.setIfInBounds_toArray, List.set_cons_zero, List.set_cons_succ]
        refine take_slotC (i := 6) (d := some 43) (v := .pointer (some ⟨lb, q, none⟩)) rfl (by kernel_rfl) (by kernel_rfl) (by kernel_rfl) (by kernel_rfl) (fun _ _ _ h => h) (.inl ⟨by kernel_rfl, fun V hV => by have hVq := hV q hqL; go_simp⟩) hHeld ?_
        try simp only [Act.put, List.setIfInBounds_toArray, List.set_cons_zero, List.set_cons_succ]
        refine take_slotC (i := 7) (d := some 44) (v := .int .i64 (L.getD q 0)) rfl (by kernel_rfl) (by kernel_rfl) (by kernel_rfl) (by kernel_rfl) (fun _ _ _ h => h) (.inl ⟨by kernel_rfl, fun V hV => by have hVq := hV q hqL; go_simp⟩) hHeld ?_
        try simp only [Act.put, List.setIfInBounds_toArray, List.set_cons_zero, List.set_cons_succ]
        refine wpAnyH_ready (rs := [0]) (by kernel_rfl) (by simp) (AllReadyH.cons (i := 0) rfl (fun K' hK' => ?_) AllReadyH.nil)
        refine step_of_wp7 rfl (wp_load_row 29 _ rfl pb rfl 29 #[.int .i64 st, .int .i64 ld, .slice A m cp] (0, 0) _ HP.out Try.underlying29 rfl (play_info _ _ _ _ _) ?_)
        refine hK'.out _ _ hHeld (fun hHeld => ?_)
        clear hK'
        try simp only [Act.put, List.setIfInBounds_toArray]
        have HXL : Hid (hasB L (L.getD q 0) = true) := hasB_yes hqL rfl
        generalize L.getD q 0 = x at HXL ⊢
        refine wpAnyH_ready (rs := [8]) (by kernel_rfl) (by simp) (AllReadyH.cons (i := 8) rfl (fun K' hK' => ?_) AllReadyH.nil)
        go_simp
        refine (l08Add st ld A m cp us x w6 (HO.out.parts8.2.2.2) (by omega) HO.out.parts8.2.2.1).mono ?_
        rintro e w7 ⟨u7, rfl, o7, b7⟩
        obtain ⟨A6, c6, hu6, hc6, hpl6, _⟩ := o7.form
        have hm6 : (us ++ [x]).length = m + 1 := by rw [List.length_append, HO.out.parts8.1]; rfl
        rw [hm6] at hu6 hc6
        subst hu6
        have k7 := Chg.of_below b7 0 0
        have HD := Lib.hid (HD.out.still k7)
        have HP := Lib.hid (HP.out.still k7)
        have H1 := Lib.hid (H1.out.still k7)
        have H2 := Lib.hid (H2.out.still k7)
        have HR := Lib.hid (HR.out.still k7)
        have HS := Lib.hid (HS.out.still k7)
        have HC := Lib.hid (HC.out.trans (k7.any g (g + 1)))
        have O7 := Lib.hid (o7.more HZ.out)
        have HZ := Lib.hid (Nat.le_trans HZ.out k7.size)
        have hS7 : ∀ j, j < L.length → w7.cell? ⟨lb, j, none⟩ = some (.int .i64 (L.getD j 0)) := fun j hj => k7.cell9 (hHeld j hj)
        clear o7 b7 k7
        refine hK'.out _ _ hS7 (fun hHeld => ?_)
        clear hK' hS7
        try simp only [Act.put, List.setIfInBounds_toArray]
        refine wpAnyH_ready (rs := [9]) (by kernel_rfl) (by simp) (AllReadyH.cons (i := 9) rfl (fun K' hK' => ?_) AllReadyH.nil)
        have HP9 := Lib.hid (setRow_heap w7 pb _ #[.int .i64 st, .int .i64 ld, .slice A6 (m + 1) c6] _ _ HP.out)
        have Cr := chgr8 w7 pb #[.int .i64 st, .int .i64 ld, .slice A6 (m + 1) c6]
        refine step_of_wp7 rfl (wp_store_row 29 _ _ rfl pb #[.int .i64 st, .int .i64 ld, .slice A6 (m + 1) c6] rfl rfl 29 #[.int .i64 st, .int .i64 ld, .slice A m cp] HP.out (play_info _ _ _ _ _) rfl (play_cells _ _ _ _ _) ?_)
        have HD := Lib.hid (HD.out.chg Cr (by omega))
        have H1 := Lib.hid (H1.out.chg Cr (by omega))
        have H2 := Lib.hid (H2.out.chg Cr (by omega))
        have HR := Lib.hid (HR.out.chg Cr (by omega))
        have HS := Lib.hid (HS.out.chg Cr (.inl (by omega)))
        have HC := Lib.hid (chg_to8 HC.out Cr (by omega))
        have HO := Lib.hid (O7.out.chg Cr (by omega))
        have HZ := Lib.hid (Nat.le_trans HZ.out Cr.size)
        have hS9 : ∀ j, j < L.length → (w7.setRow pb #[.int .i64 st, .int .i64 ld, .slice A6 (m + 1) c6]).cell? ⟨lb, j, none⟩ = some (.int .i64 (L.getD j 0)) := fun j hj => by rw [World.cell?_of_block (Cr.block lb (lt_of_cell (hHeld j hj)) (.inr (by omega)))]; exact hHeld j hj
        refine hK'.out _ _ hS9 (fun hHeld => ?_)
        clear hK' hHeld hS9 Cr O7 HP
        refine wpAnyH_done (by kernel_rfl) ?_ _
        have hpt := Lib.hid (play_snoc8 (x := x) HPT.out (by rw [HLG.out]; exact HXL.out))
        generalize (w7.setRow pb #[.int .i64 st, .int .i64 ld, .slice A6 (m + 1) c6]) = W9 at HD HP9 H1 H2 HR HS HC HO HZ ⊢
        go_wp2_with fail
        go_roundw
        case rel => exact ⟨k - 1, A6, m + 1, c6, us ++ [x], by omega, by congr 1; omega, HD, HP9, H1, H2, HR, HO, HS, HC, HZ, hpt, by show List.length _ = _; exact hm6⟩
        case measure => simp [intOf]; omega
    · have hk0I : ¬ (0 : Int) < (k : Int) := by omega
      have cd : Chg wr wr.drew 0 0 := Chg.of_drew ⟨1, rfl⟩ 0 0
      have HD := Lib.hid (HD.out.still cd)
      have HP := Lib.hid (HP.out.still cd)
      have H1 := Lib.hid (H1.out.still cd)
      have H2 := Lib.hid (H2.out.still cd)
      have HR := Lib.hid (HR.out.still cd)
      have HS := Lib.hid (HS.out.still cd)
      have HO := Lib.hid (HO.out.chg cd (Nat.zero_le _))
      have HC := Lib.hid (HC.out.trans (cd.any g (g + 1)))
      have hS0 := And.intro HD.out HP.out
      clear cd
      go_wp2_with fail
      refine wp_region_held_drew (S := fun V => SBox V 26 db #[.slice (some ⟨b, 0, none⟩) 4 c] ∧ SBox V 29 pb #[.int .i64 st, .int .i64 ld, .slice A m cp]) (by kernel_rfl) hS0 (fun hHeld => ?_)
      generalize wr.drew = V0 at HD HP H1 H2 HR HO HS HC hHeld ⊢
      refine take_slotC (i := 0) (d := some 46) (v := .agg #[.slice (some ⟨b, 0, none⟩) 4 c]) rfl (by kernel_rfl) (by kernel_rfl) (by kernel_rfl) (by kernel_rfl) (fun _ _ _ h => h) (yieldsIf_load_mid (by kernel_rfl) 26 (.tmp 6) rfl db 0 rfl [.slice (some ⟨b, 0, none⟩) 4 c] _ (fun V hV => SBox.range hV.1) Try.underlying26 rfl (deal_infoLd _)) hHeld ?_
      try simp only [Act.put, List.setIfInBounds_toArray, List.set_cons_zero, List.set_cons_succ]
      refine take_slotC (i := 1) (d := some 47) (v := .agg #[.int .i64 st, .int .i64 ld, .slice A m cp]) rfl (by kernel_rfl) (by kernel_rfl) (by kernel_rfl) (by kernel_rfl) (fun _ _ _ h => h) (yieldsIf_load_mid (by kernel_rfl) 29 (.tmp 7) rfl pb 0 rfl [.int .i64 st, .int .i64 ld, .slice A m cp] _ (fun V hV => SBox.range hV.2) Try.underlying29 rfl (play_infoL _ _ _)) hHeld ?_
      try simp only [Act.put, List.setIfInBounds_toArray, List.set_cons_zero, List.set_cons_succ]
      refine wpAnyH_ready (rs := [2]) (by kernel_rfl) (by simp) (AllReadyH.cons (i := 2) rfl (fun K' hK' => ?_) AllReadyH.nil)
      have N1 := Lib.hid (setRow_heap V0 w.heap.size _ #[.slice (some ⟨b, 0, none⟩) 4 c] _ _ H1.out)
      have Cr := chgr8 V0 w.heap.size #[.slice (some ⟨b, 0, none⟩) 4 c]
      refine step_of_wp7 rfl (wp_store_row 26 _ _ rfl w.heap.size #[.slice (some ⟨b, 0, none⟩) 4 c] rfl rfl 26 #[.slice none 0 0] H1.out (deal_info8 _) rfl (deal_cells8 _ _ _) ?_)
      have HD := Lib.hid (HD.out.chg Cr (by omega))
      have HP := Lib.hid (HP.out.chg Cr (by omega))
      have HR := Lib.hid (HR.out.chg Cr (.inr (by omega)))
      have HO := Lib.hid (HO.out.chg Cr (by omega))
      have HS := Lib.hid (HS.out.chg Cr (.inl (by omega)))
      have HC := Lib.hid (chg_to8 HC.out Cr (by omega))
      have H2 := Lib.hid (H2.out.chg Cr (by omega))
      refine hK'.out _ _ (And.intro HD.out HP.out) (fun hHeld => ?_)
      clear hK' Cr
      generalize V0.setRow w.heap.size #[.slice (some ⟨b, 0, none⟩) 4 c] = V1 at N1 HD HP HR HO HS HC H2 hHeld ⊢
      refine wpAnyH_ready (rs := [3]) (by kernel_rfl) (by simp) (AllReadyH.cons (i := 3) rfl (fun K' hK' => ?_) AllReadyH.nil)
      have N2 := Lib.hid (setRow_heap V1 (w.heap.size + 1) _ #[.int .i64 st, .int .i64 ld, .slice A m cp] _ _ H2.out)
      have Cr := chgr8 V1 (w.heap.size + 1) #[.int .i64 st, .int .i64 ld, .slice A m cp]
      refine step_of_wp7 rfl (wp_store_row 29 _ _ rfl (w.heap.size + 1) #[.int .i64 st, .int .i64 ld, .slice A m cp] rfl rfl 29 #[.int .i64 0, .int .i64 0, .slice none 0 0] H2.out (play_info _ _ _ _ _) rfl (play_cells _ _ _ _ _) ?_)
      have HD := Lib.hid (HD.out.chg Cr (by omega))
      have HP := Lib.hid (HP.out.chg Cr (by omega))
      have HR := Lib.hid (HR.out.chg Cr (.inr (by omega)))
      have HO := Lib.hid (HO.out.chg Cr (by omega))
      have HS := Lib.hid (HS.out.chg Cr (.inl (by omega)))
      have HC := Lib.hid (chg_to8 HC.out Cr (by omega))
      have N1 := Lib.hid (SBox.chg N1.out Cr (by omega))
      refine hK'.out _ _ (And.intro HD.out HP.out) (fun hHeld => ?_)
      clear hK' hHeld Cr
      generalize V1.setRow (w.heap.size + 1) #[.int .i64 st, .int .i64 ld, .slice A m cp] = V2 at N1 N2 HD HP HR HO HS HC ⊢
      refine wpAnyH_done (by kernel_rfl) ?_ _
      go_wp2_with fail
      refine bodyPost_ret (v := .tuple #[.agg #[.slice (some ⟨b, 0, none⟩) 4 c], .agg #[.int .i64 st, .int .i64 ld, .slice A m cp]]) (results_rows8 Try.results114 _ _ w.heap.size (w.heap.size + 1) #[.slice (some ⟨b, 0, none⟩) 4 c] #[.int .i64 st, .int .i64 ld, .slice A m cp] _ _ rfl rfl N1.out N2.out Try.underlying26 rfl (deal_info8 _) Try.underlying29 rfl (play_info _ _ _ _ _)) rfl ?_
      have hz2 := HP.out.lt
      exact ⟨b, c, zss, st, ld, A, m, cp, us, pb, rfl, hc4, HR.out.more (by omega) (by omega), HDL.out, HO.out.more (by omega), ⟨by omega, by omega⟩, ⟨st0, by omega⟩, ⟨ld0, by omega⟩, HPT.out, by have := HRL.out 0 (by omega); have := hn13; omega, HS.out, HC.out⟩
end Go.Proofs.Yteglffbeldlibaa.Lib1
