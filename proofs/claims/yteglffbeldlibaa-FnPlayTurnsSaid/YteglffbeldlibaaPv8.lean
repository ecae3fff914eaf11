/- Chapter 8, the program: plain plays, the leaders of tricks, the tricks of the sides. (Written by wip/gen8n.py.) -/
import Derived.Test.YteglffbeldlibaaPu8
import Derived.Test.YteglffbeldlibaaImplA
import Derived.Test.YteglffbeldlibaaPlayC8
namespace Go.Proofs.Yteglffbeldlibaa.Lib1
open Go.RowKit
set_option maxRecDepth 100000

theorem Held.one8 (w : World) : Held (w.alloc (.cells noneHeld 150)) w.heap.size [] := by
  refine ⟨_, heap_alloc_new w _, fun c hc => ?_⟩
  rw [noneHeld_at c hc]
  simp
set_option maxHeartbeats 3200000 in
theorem diffCards8 (A : Option Addr) (n c : Nat) (cs : List Int) (w : World) (h : Rd w 0 w.heap.size A n cs) (hn : n ≤ 1048576) :
    Calls Try.prog 93 #[.slice A n c] w fun e w' => e = .returned (.bool (diffTo cs n)) ∧ Chg w w' 0 0 := by
  have hlen := h.1
  have hs0 := Lib.hid (Held.one8 w)
  have H := Lib.hid h
  clear h
  go_enter Try.func93, Try.ntmps93
  go_wp2
  go_loopw [8] (fun i wr => ∃ k : Nat, k ≤ n ∧ i = .int .i64 k ∧ Hid (diffTo cs k = true) ∧ Held wr w.heap.size (cs.take k) ∧ Chg w wr 0 0) (fun i _ => n - (intOf i).toNat)
  case atStart => exact ⟨0, Nat.zero_le _, rfl, rfl, by rw [List.take_zero]; exact hs0.out, Chg.of_alloc _ _ _ _⟩
  case round =>
    obtain ⟨k, hk, rfl, hdf, hseen, hch⟩ := hrel
    by_cases hlt : k < n
    · have hkl : (k : Int) < (n : Int) := by omega
      obtain ⟨b, off, rfl, _, _, hcs⟩ := (H.out.still hch).2 (by omega)
      have hck := hcs k hlt
      have hsucc : Hid (diffTo cs (k + 1) = (inB (cs.getD k 0) 0 51 && !hasB (cs.take k) (cs.getD k 0))) := by show _ = _; rw [diffTo, hdf.out, Bool.true_and]
      have hno : Hid (diffTo cs (k + 1) = false → diffTo cs n = false) := fun e => by
        cases hq : diffTo cs n
        · rfl
        · rw [diff_le (show k + 1 ≤ n by omega) hq] at e; cases e
      have htk := Lib.hid (take_one (cs := cs) (k := k) (by omega))
      generalize cs.getD k 0 = z at hck hsucc htk
      clear hcs
      have hnI : (n : Int) ≤ 1048576 := by omega
      cases hb : inB z 0 51
      · have hf : Hid (diffTo cs n = false) := hno.out (by rw [hsucc.out, hb]; rfl)
        go_wp2_with (go_at_call 131; refine (isCard _ _).mono ?_; rintro e w' ⟨rfl, rfl⟩)
        go_ret
        exact ⟨ret_bool hf.out.symm, hch⟩
      · have hz51 : 0 ≤ z ∧ z ≤ 51 := by simpa [inB] using hb
        have hsc := hseen.cell z hz51.1 hz51.2
        have hsp := hseen.put z hz51.1 hz51.2
        rw [← htk.out] at hsp
        have hcp := hch.cell (g := w.heap.size) (i := z.toNat) (v := .bool true) (Nat.le_refl _)
        have z0 := hz51.1
        have z2 : z < 52 := by omega
        obtain ⟨hsc, hsf⟩ := hsc
        have hhas : Hid (hasB (cs.take k) z = decide (z ∈ cs.take k)) := rfl
        by_cases hm : z ∈ cs.take k
        · have hf : Hid (diffTo cs n = false) := hno.out (by rw [hsucc.out, hb, hhas.out, decide_eq_true hm]; rfl)
          have hd : decide (z ∈ cs.take k) = true := by simpa using hm
          rw [hd] at hsc
          clear hm hsp hcp hz51 hd hseen
          go_wp2_with (go_at_call 131; refine (isCard _ _).mono ?_; rintro e w' ⟨rfl, rfl⟩)
          go_ret
          exact ⟨ret_bool hf.out.symm, hch⟩
        · have hd : decide (z ∈ cs.take k) = false := by simpa using hm
          have hf : Hid (diffTo cs (k + 1) = true) := by show _ = _; rw [hsucc.out, hb, hhas.out, hd]; rfl
          rw [hd] at hsc
          clear hm hd hseen hz51
          go_wp2_with (go_at_call 131; refine (isCard _ _).mono ?_; rintro e w' ⟨rfl, rfl⟩)
          go_roundw
          case rel => exact ⟨k + 1, by omega, by go_num, hf, hsp, hcp⟩
          case measure => simp [intOf]; omega
    · obtain rfl : k = n := by omega
      go_wp2
      go_ret
      exact ⟨ret_bool hdf.out.symm, hch⟩

theorem impl_IsPlainPlay (st ld : Int) (A : Option Addr) (n c : Nat) (cs : List Int) (w : World) (h : Rd w 0 w.heap.size A n cs) (hn : n ≤ 1048576) (_ : n ≤ c) :
    Calls Try.prog 30 #[.agg #[.int .i64 st, .int .i64 ld, .slice A n c]] w fun e w' => e = .returned (.bool (plainB st ld cs)) ∧ Chg w w' 0 0 := by
  have hl := Lib.hid h.1
  have hp := Lib.hid (plain_is st ld cs)
  obtain ⟨R, hR⟩ : ∃ R, R = plainB st ld cs := ⟨_, rfl⟩
  rw [← hR] at hp ⊢
  have ca := Chg.of_alloc w (.cells #[.int .i64 st, .int .i64 ld, .slice A n c] 29) 0 0
  have X := Lib.hid (SBox.new w 29 #[.int .i64 st, .int .i64 ld, .slice A n c])
  have q0 : (w.alloc (.cells #[.int .i64 st, .int .i64 ld, .slice A n c] 29)).cell? ⟨w.heap.size, 0, none⟩ = some (.int .i64 st) := (X.out.cell 0).trans rfl
  have q1 : (w.alloc (.cells #[.int .i64 st, .int .i64 ld, .slice A n c] 29)).cell? ⟨w.heap.size, 1, none⟩ = some (.int .i64 ld) := (X.out.cell 1).trans rfl
  have q2 : (w.alloc (.cells #[.int .i64 st, .int .i64 ld, .slice A n c] 29)).cell? ⟨w.heap.size, 2, none⟩ = some (.slice A n c) := (X.out.cell 2).trans rfl
  have HD := Lib.hid (diffCards8 A n c cs _ (show Rd (w.alloc (.cells #[.int .i64 st, .int .i64 ld, .slice A n c] 29)) 0 _ A n cs from (h.still ca).all) hn)
  have CA := Lib.hid ca
  clear hR h ca
  go_enter Try.func30, Try.ntmps30
  go_wp2_with fail
  generalize w.alloc (.cells #[.int .i64 st, .int .i64 ld, .slice A n c] 29) = W at X q0 q1 q2 HD CA ⊢
  refine (isStrain8 _ _).mono ?_
  rintro e w' ⟨rfl, rfl⟩
  cases hs : inB st 0 4
  · have hr : Hid (R = false) := by show R = _; rw [hp.out, hs]; rfl
    clear hs
    go_wp2
    go_ret
    exact ⟨ret_bool hr.out.symm, CA.out⟩
  · have hp := Lib.hid (show R = (inB ld 0 3 && diffTo cs n) by rw [hp.out, hs, hl.out]; rfl)
    clear hs
    go_wp2_with fail
    refine (isSeat8 _ _).mono ?_
    rintro e w' ⟨rfl, rfl⟩
    cases hs2 : inB ld 0 3
    · have hr : Hid (R = false) := by show R = _; rw [hp.out, hs2]; rfl
      clear hs2
      go_wp2
      go_ret
      exact ⟨ret_bool hr.out.symm, CA.out⟩
    · have hr : Hid (R = diffTo cs n) := by show R = _; rw [hp.out, hs2]; rfl
      clear hs2
      go_wp2_with fail
      refine HD.out.mono ?_
      rintro e w2 ⟨rfl, cd⟩
      go_wp2
      go_ret
      exact ⟨ret_bool hr.out.symm, CA.out.trans cd⟩

theorem Tch.links {w : World} {c B : Nat} {Z : Nat → Prop} {st ld : Int} {us : List Int} (h : Tch w c B Z st ld us) : ∃ (a : Nat → Nat) (cv : Nat → Value) (q f : Value), KBox w c (.pointer (some ⟨a 0, 0, none⟩)) q f ∧
    (∀ j, j < us.length / 4 → TBox w (a j) (leadT st ld us j) (cv j) (.pointer (some ⟨a (j + 1), 0, none⟩))) ∧ TBox w (a (us.length / 4)) (leadT st ld us (us.length / 4)) (cv (us.length / 4)) (.pointer none) := by
  obtain ⟨a, cv, v, bs, bb, sb, h1, h2, h3, h4, _⟩ := h
  refine ⟨a, fun j => if j = us.length / 4 then v else cv j, _, _, h1, fun j hj => ?_, ?_⟩
  · dsimp only
    rw [if_neg (by omega)]; exact h3 j hj
  · simp only [if_true]
    exact h4
theorem make2_8 (w : World) : (Instr.makeSlice 27 (.int .i64 2) (.int .i64 2)).run Try.prog w = .ok (.slice (some ⟨w.heap.size, 0, none⟩) 2 2) (w.alloc (.cells #[.int .i64 0, .int .i64 0] 2)) := by
  have h := run_make_row' (P := Try.prog) 27 2 (.int .i64 0) 8 Try.underlying27 cells_info rfl .i64 .i64 2 (by decide) (by decide) w
  rw [show madeCells #[Value.int .i64 0] 2 = #[.int .i64 0, .int .i64 0] by kernel_rfl] at h
  exact h
set_option maxHeartbeats 3200000 in
theorem impl_TrickLeaders (st ld : Int) (A : Option Addr) (n c : Nat) (cs : List Int) (w : World) (h : Rd w 0 w.heap.size A n cs) (hn : n ≤ 1048576) (hcap : n ≤ c) :
    Calls Try.prog 33 #[.agg #[.int .i64 st, .int .i64 ld, .slice A n c]] w (RetV w (leadV st ld cs)) := by
  have hl := Lib.hid h.1
  have HV := Lib.hid (show leadV st ld cs = if plainB st ld cs then leadL st ld cs (cs.length / 4 + 1) else [] from rfl)
  obtain ⟨R, hR⟩ : ∃ R, R = leadV st ld cs := ⟨_, rfl⟩
  rw [← hR] at HV ⊢
  have ca := Chg.of_alloc w (.cells #[.int .i64 st, .int .i64 ld, .slice A n c] 29) 0 0
  have X := Lib.hid (SBox.new w 29 #[.int .i64 st, .int .i64 ld, .slice A n c])
  have H1 := Lib.hid (show Rd (w.alloc (.cells #[.int .i64 st, .int .i64 ld, .slice A n c] 29)) 0 _ A n cs from (h.still ca).all)
  have CA := Lib.hid ca
  clear hR h ca
  go_enter Try.func33, Try.ntmps33
  go_wp2_with (refine wpList_load_row rfl 29 _ rfl w.heap.size rfl 29 #[.int .i64 st, .int .i64 ld, .slice A n c] (0, 0) _ X.out Try.underlying29 rfl (play_info _ _ _ _ _) ?_)
  generalize w.alloc (.cells #[.int .i64 st, .int .i64 ld, .slice A n c] 29) = W at X H1 CA ⊢
  refine (impl_IsPlainPlay st ld A n c cs W H1.out hn hcap).mono ?_
  rintro e w1 ⟨rfl, c1⟩
  have X1 := Lib.hid (X.out.still c1)
  have H2 := Lib.hid (show Rd w1 0 w1.heap.size A n cs from (H1.out.still c1).all)
  have C1 := Lib.hid (CA.out.trans c1)
  clear X H1 CA c1
  cases hp : plainB st ld cs
  · have hr : Hid (R = []) := by show R = _; rw [HV.out, hp]; rfl
    clear hp
    go_wp2
    go_ret
    exact ⟨_, rfl, by rw [hr.out]; exact OwnV.nil_ _ _, C1.out.to_below⟩
  obtain ⟨hdf, _, hld, hn52⟩ := plain_parts hp
  rw [hl.out] at hn52
  have hr : Hid (R = leadL st ld cs (n / 4 + 1)) := by show R = _; rw [HV.out, hp, hl.out]; rfl
  have hz : ∀ j, j < n → 0 ≤ cs.getD j 0 ∧ cs.getD j 0 ≤ 51 := fun j hj => diff_card hdf (by rw [hl.out]; exact hj)
  have HT := Lib.hid (tricksOf8 st ld A n c cs w1 H2.out hn hld hz)
  clear hp hdf hz HV
  go_wp2_with (refine wpList_load_row rfl 29 _ rfl w.heap.size rfl 29 #[.int .i64 st, .int .i64 ld, .slice A n c] (0, 0) _ X1.out Try.underlying29 rfl (play_info _ _ _ _ _) ?_)
  refine HT.out.mono ?_
  rintro e w2 ⟨k, rfl, ht, c2⟩
  obtain ⟨a, cv, q, f, hK, hT, hT2⟩ := ht.links
  rw [hl.out] at hT hT2
  have HTJ := Lib.hid hT
  have HTM := Lib.hid hT2
  have k0 := hK.c0
  have C2 := Lib.hid (C1.out.trans c2)
  obtain ⟨m, hm⟩ : ∃ m, m = n / 4 := ⟨_, rfl⟩
  rw [← hm] at HTJ HTM hr
  have hm13 : m ≤ 13 := by omega
  clear hT hT2 c2 HT ht hm
  go_wp2_with fail
  clear hK k0
  go_loopw [3, 4] (fun v p wr => ∃ k : Nat, k ≤ m + 1 ∧ Hid (OwnV wr w2.heap.size v (leadL st ld cs k)) ∧ p = (if k ≤ m then .pointer (some ⟨a k, 0, none⟩) else .pointer none) ∧ Hid (Below w2.heap.size w2 wr)) (fun v _ _ => m + 1 - (match v with | .slice _ k _ => k | _ => 0))
  case atStart => exact ⟨0, Nat.zero_le _, OwnV.nil_ _ _, rfl, Below.refl _ _⟩
  case round =>
    obtain ⟨k, hk, hv, rfl, hb⟩ := hrel
    have hlk : (leadL st ld cs k).length = k := leadL_len _ _ _ _
    obtain ⟨A2, c2, rfl, _, _, _⟩ := hv.out.form_at (n := k) hlk
    by_cases hlt : k ≤ m
    · rw [if_pos hlt]
      have hsz := hb.out.size
      have hlen1 : (leadL st ld cs k).length ≤ 1048576 := by omega
      have hlen2 : (leadL st ld cs k ++ [leadT st ld cs k]).length = k + 1 := by rw [List.length_append, hlk]; rfl
      have hsu := Lib.hid (leadL_succ st ld cs k)
      by_cases he : k < m
      · have TK := Lib.hid ((HTJ.out k he).of (hb.out.block (a k) (HTJ.out k he).lt))
        have t0 := TK.out.c0
        have hlk2 : ¬ k + 1 ≤ k := by omega
        go_wp2_with (at_builtin; refine wpList_push rfl (.tmp 19) (.tmp 24) rfl w2.heap.size _ _ rfl hv.out _ rfl hlen1 hsz ?_; intro v2 w5 o2 b2; obtain ⟨A3, c3, rfl, _, _, _⟩ := o2.form_at (n := k + 1) hlen2; have T5 := Lib.hid (TK.out.of (b2.block (a k) (HTJ.out k he).lt)); have O5 := Lib.hid o2; have B5 := Lib.hid (hb.out.trans b2); clear o2 b2 t0; have t2 := T5.out.c2)
        go_roundw
        case rel => exact ⟨k + 1, by omega, by rw [hsu.out]; exact O5.out, by rw [if_pos (show k + 1 ≤ m by omega)], B5.out⟩
        case measure => simp; omega
      · obtain rfl : k = m := by omega
        have TK := Lib.hid (HTM.out.of (hb.out.block (a k) HTM.out.lt))
        have t0 := TK.out.c0
        go_wp2_with (at_builtin; refine wpList_push rfl (.tmp 19) (.tmp 24) rfl w2.heap.size _ _ rfl hv.out _ rfl hlen1 hsz ?_; intro v2 w5 o2 b2; obtain ⟨A3, c3, rfl, _, _, _⟩ := o2.form_at (n := k + 1) hlen2; have T5 := Lib.hid (TK.out.of (b2.block (a k) HTM.out.lt)); have O5 := Lib.hid o2; have B5 := Lib.hid (hb.out.trans b2); clear o2 b2 t0; have t2 := T5.out.c2)
        go_roundw
        case rel => exact ⟨k + 1, by omega, by rw [hsu.out]; exact O5.out, by rw [if_neg (show ¬ k + 1 ≤ k by omega)], B5.out⟩
        case measure => simp
    · rw [if_neg hlt]
      obtain rfl : k = m + 1 := by omega
      go_wp2
      go_ret
      have hs2 := C2.out.size
      exact ⟨_, rfl, by rw [hr.out]; exact hv.out.more hs2, C2.out.to_below.trans (hb.out.mono hs2)⟩

set_option maxHeartbeats 3200000 in
theorem impl_TricksOfSides (st ld : Int) (A : Option Addr) (n c : Nat) (cs : List Int) (w : World) (h : Rd w 0 w.heap.size A n cs) (hn : n ≤ 1048576) (hcap : n ≤ c) :
    Calls Try.prog 34 #[.agg #[.int .i64 st, .int .i64 ld, .slice A n c]] w (RetV w (tricksV st ld cs)) := by
  have hl := Lib.hid h.1
  have HV := Lib.hid (show tricksV st ld cs = if plainB st ld cs then [cntS st ld cs 0 (cs.length / 4), cntS st ld cs 1 (cs.length / 4)] else [] from rfl)
  obtain ⟨R, hR⟩ : ∃ R, R = tricksV st ld cs := ⟨_, rfl⟩
  rw [← hR] at HV ⊢
  have ca := Chg.of_alloc w (.cells #[.int .i64 st, .int .i64 ld, .slice A n c] 29) 0 0
  have X := Lib.hid (SBox.new w 29 #[.int .i64 st, .int .i64 ld, .slice A n c])
  have H1 := Lib.hid (show Rd (w.alloc (.cells #[.int .i64 st, .int .i64 ld, .slice A n c] 29)) 0 _ A n cs from (h.still ca).all)
  have CA := Lib.hid ca
  clear hR h ca
  go_enter Try.func34, Try.ntmps34
  go_wp2_with (refine wpList_load_row rfl 29 _ rfl w.heap.size rfl 29 #[.int .i64 st, .int .i64 ld, .slice A n c] (0, 0) _ X.out Try.underlying29 rfl (play_info _ _ _ _ _) ?_)
  generalize w.alloc (.cells #[.int .i64 st, .int .i64 ld, .slice A n c] 29) = W at X H1 CA ⊢
  refine (impl_IsPlainPlay st ld A n c cs W H1.out hn hcap).mono ?_
  rintro e w1 ⟨rfl, c1⟩
  have X1 := Lib.hid (X.out.still c1)
  have H2 := Lib.hid (show Rd w1 0 w1.heap.size A n cs from (H1.out.still c1).all)
  have C1 := Lib.hid (CA.out.trans c1)
  clear X H1 CA c1
  cases hp : plainB st ld cs
  · have hr : Hid (R = []) := by show R = _; rw [HV.out, hp]; rfl
    clear hp
    go_wp2
    go_ret
    exact ⟨_, rfl, by rw [hr.out]; exact OwnV.nil_ _ _, C1.out.to_below⟩
  obtain ⟨hdf, _, hld, hn52⟩ := plain_parts hp
  rw [hl.out] at hn52
  have hr : Hid (R = [cntS st ld cs 0 (n / 4), cntS st ld cs 1 (n / 4)]) := by show R = _; rw [HV.out, hp, hl.out]; rfl
  have hz : ∀ j, j < n → 0 ≤ cs.getD j 0 ∧ cs.getD j 0 ≤ 51 := fun j hj => diff_card hdf (by rw [hl.out]; exact hj)
  have cw := Chg.of_alloc w1 (.cells #[.int .i64 0, .int .i64 0] 2) 0 0
  have HT := Lib.hid (tricksOf8 st ld A n c cs (w1.alloc (.cells #[.int .i64 0, .int .i64 0] 2)) (H2.out.still cw).all hn hld hz)
  have X2 := Lib.hid (X1.out.still cw)
  have Y2 := Lib.hid (SBox.new w1 2 #[.int .i64 0, .int .i64 0])
  have C2 := Lib.hid (C1.out.trans cw)
  have hmk := make2_8
  clear hp hdf hz HV cw X1
  go_wp2_with (refine wpList_load_row rfl 29 _ rfl w.heap.size rfl 29 #[.int .i64 st, .int .i64 ld, .slice A n c] (0, 0) _ X2.out Try.underlying29 rfl (play_info _ _ _ _ _) ?_)
  refine HT.out.mono ?_
  clear hmk
  have hwb := C1.out.size
  obtain ⟨wb, hwb2⟩ : ∃ wb, wb = w1.heap.size := ⟨_, rfl⟩
  rw [← hwb2] at Y2 hwb ⊢
  rintro e w2 ⟨k, rfl, ht, c2⟩
  obtain ⟨a, cv, q, f, hK, hT, hT2⟩ := ht.links
  rw [hl.out] at hT hT2
  have HTJ := Lib.hid hT
  have HTM := Lib.hid hT2
  have k0 := hK.c0
  have Y3 := Lib.hid (Y2.out.still c2)
  have C3 := Lib.hid (C2.out.trans c2)
  obtain ⟨m, hm⟩ : ∃ m, m = n / 4 := ⟨_, rfl⟩
  rw [← hm] at HTJ HTM hr
  have hm13 : m ≤ 13 := by omega
  clear hT hT2 c2 HT ht hm hwb2 Y2 C2
  go_wp2_with fail
  clear hK k0
  go_loopw [4] (fun p wr => ∃ k : Nat, k ≤ m ∧ p = .pointer (some ⟨a k, 0, none⟩) ∧ Hid (SBox wr 2 wb #[.int .i64 (cntS st ld cs 0 k), .int .i64 (cntS st ld cs 1 k)]) ∧ Hid (Chg w2 wr wb (wb + 1))) (fun _ wr => m - (match wr.cell? ⟨wb, 0, none⟩, wr.cell? ⟨wb, 1, none⟩ with | some x, some y => (intOf x + intOf y).toNat | _, _ => 0))
  case atStart => exact ⟨0, Nat.zero_le _, rfl, Y3.out, Chg.refl _ _ _⟩
  case round =>
    obtain ⟨k, hk, rfl, hB, hC⟩ := hrel
    have hsum := cntS_sum (st := st) (cs := cs) hld k
    have hm0 : wr.cell? ⟨wb, 0, none⟩ = some (.int .i64 (cntS st ld cs 0 k)) := (hB.out.cell 0).trans rfl
    have hm1 : wr.cell? ⟨wb, 1, none⟩ = some (.int .i64 (cntS st ld cs 1 k)) := (hB.out.cell 1).trans rfl
    by_cases hlt : k < m
    · have hak := (HTJ.out k hlt).ne Y3.out (by decide)
      have TK := Lib.hid ((HTJ.out k hlt).of (hC.out.block (a k) (HTJ.out k hlt).lt (by omega)))
      obtain ⟨v2, nx2, hT1⟩ : ∃ v2 nx2, TBox w2 (a (k + 1)) (leadT st ld cs (k + 1)) v2 nx2 := by
        by_cases he : k + 1 < m
        · exact ⟨_, _, HTJ.out (k + 1) he⟩
        · obtain rfl : m = k + 1 := by omega
          exact ⟨_, _, HTM.out⟩
      have hak1 := hT1.ne Y3.out (by decide)
      have TN := Lib.hid (hT1.of (hC.out.block (a (k + 1)) hT1.lt (by omega)))
      have t2 := TK.out.c2
      have t0 := TN.out.c0
      have hlr := leadT_rng (st := st) hld cs (k + 1)
      have r0 := cntS_rng st ld cs 0 k
      have r1 := cntS_rng st ld cs 1 k
      have hsum1 := cntS_sum (st := st) (cs := cs) hld (k + 1)
      have g0 : cntS st ld cs 0 (k + 1) = cntS st ld cs 0 k + if leadT st ld cs (k + 1) % 2 = 0 then 1 else 0 := rfl
      have g1 : cntS st ld cs 1 (k + 1) = cntS st ld cs 1 k + if leadT st ld cs (k + 1) % 2 = 1 then 1 else 0 := rfl
      clear hT1
      generalize leadT st ld cs (k + 1) = lj at hlr g0 g1 t0 TN
      generalize hq0 : cntS st ld cs 0 (k + 1) = d0 at g0 hsum1
      generalize hq1 : cntS st ld cs 1 (k + 1) = d1 at g1 hsum1
      have Q0 := Lib.hid hq0
      have Q1 := Lib.hid hq1
      clear hq0 hq1
      generalize cntS st ld cs 0 k = c0 at hB r0 g0 hm0 hsum
      generalize cntS st ld cs 1 k = c1 at hB r1 g1 hm1 hsum
      have hfr : ∀ i, wr.frozen? ⟨wb, i, none⟩ = false := fun i => by have q := hB.out; unfold SBox at q; simp [World.frozen?, q]
      have f0 := hfr 0
      have f1 := hfr 1
      have w0 : IntKind.i64.wrap (c0 + 1) = c0 + 1 := by rw [IntKind.wrap_i64]; omega
      have w3 : IntKind.i64.wrap (c1 + 1) = c1 + 1 := by rw [IntKind.wrap_i64]; omega
      have hside := sideOf8 lj
      have HS := Lib.hid hside
      have HSM := Lib.hid hsum
      have HSM1 := Lib.hid hsum1
      have HM0 := Lib.hid hm0
      have HM1 := Lib.hid hm1
      clear hfr r0 r1 hside hsum hsum1
      by_cases he : lj % 2 = 0
      · have e0 : d0 = c0 + 1 := by rw [g0, if_pos he]
        have e1 : d1 = c1 := by rw [g1, if_neg (by omega), Int.add_zero]
        have NB := Lib.hid (show SBox (wr.setCell ⟨wb, 0, none⟩ (.int .i64 (c0 + 1))) 2 wb #[.int .i64 (cntS st ld cs 0 (k + 1)), .int .i64 (cntS st ld cs 1 (k + 1))] by
          rw [Q0.out, Q1.out, e0, e1]
          exact set_heapS hB.out 0 _)
        have NC := Lib.hid (hC.out.store (b := wb) (k := 0) (Nat.le_refl _) (Nat.lt_succ_self _) (.int .i64 (c0 + 1)))
        have HE := Lib.hid he
        clear g0 g1 e0 e1 hm1
        go_wp2_with fail
        refine (HS.out _ hlr.1).mono ?_
        rintro e w' ⟨rfl, rfl⟩
        rw [HE.out]
        clear he
        go_wp2_with fail
        go_roundw
        case rel => exact ⟨k + 1, by omega, rfl, NB.out, NC.out⟩
        case measure =>
          have n0 : (wr.setCell ⟨wb, 0, none⟩ (.int .i64 (c0 + 1))).cell? ⟨wb, 0, none⟩ = some (.int .i64 (cntS st ld cs 0 (k + 1))) := (NB.out.cell 0).trans rfl
          have n1 : (wr.setCell ⟨wb, 0, none⟩ (.int .i64 (c0 + 1))).cell? ⟨wb, 1, none⟩ = some (.int .i64 (cntS st ld cs 1 (k + 1))) := (NB.out.cell 1).trans rfl
          have s1 := cntS_sum (st := st) (cs := cs) hld (k + 1)
          have s0 := HSM.out
          rw [n0, n1, HM0.out, HM1.out]
          simp only [intOf]
          omega
      · have he1 : lj % 2 = 1 := by omega
        have e0 : d0 = c0 := by rw [g0, if_neg he, Int.add_zero]
        have e1 : d1 = c1 + 1 := by rw [g1, if_pos he1]
        have NB := Lib.hid (show SBox (wr.setCell ⟨wb, 1, none⟩ (.int .i64 (c1 + 1))) 2 wb #[.int .i64 (cntS st ld cs 0 (k + 1)), .int .i64 (cntS st ld cs 1 (k + 1))] by
          rw [Q0.out, Q1.out, e0, e1]
          exact set_heapS hB.out 1 _)
        have NC := Lib.hid (hC.out.store (b := wb) (k := 1) (Nat.le_refl _) (Nat.lt_succ_self _) (.int .i64 (c1 + 1)))
        have HE := Lib.hid he1
        clear g0 g1 e0 e1 hm0 he
        go_wp2_with fail
        refine (HS.out _ hlr.1).mono ?_
        rintro e w' ⟨rfl, rfl⟩
        rw [HE.out]
        clear he1
        go_wp2_with fail
        go_roundw
        case rel => exact ⟨k + 1, by omega, rfl, NB.out, NC.out⟩
        case measure =>
          have n0 : (wr.setCell ⟨wb, 1, none⟩ (.int .i64 (c1 + 1))).cell? ⟨wb, 0, none⟩ = some (.int .i64 (cntS st ld cs 0 (k + 1))) := (NB.out.cell 0).trans rfl
          have n1 : (wr.setCell ⟨wb, 1, none⟩ (.int .i64 (c1 + 1))).cell? ⟨wb, 1, none⟩ = some (.int .i64 (cntS st ld cs 1 (k + 1))) := (NB.out.cell 1).trans rfl
          have s1 := cntS_sum (st := st) (cs := cs) hld (k + 1)
          have s0 := HSM.out
          rw [n0, n1, HM0.out, HM1.out]
          simp only [intOf]
          omega
    · obtain rfl : k = m := by omega
      have hak := HTM.out.ne Y3.out (by decide)
      have TK := Lib.hid (HTM.out.of (hC.out.block (a k) HTM.out.lt (by omega)))
      have t2 := TK.out.c2
      clear hm0 hm1 hsum
      go_wp2
      go_ret
      rw [hr.out]
      exact RetV.of_box w wr hwb hB.out (Chg.above C3.out.to_below hC.out C3.out.size (.inl hwb))
end Go.Proofs.Yteglffbeldlibaa.Lib1
