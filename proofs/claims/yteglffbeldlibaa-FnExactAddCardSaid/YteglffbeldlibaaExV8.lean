/- Chapter 8: exact laws over plays and deals. (Written by wip/gen8x.py.) -/
import Derived.Test.YteglffbeldlibaaExL8
import Derived.Deep.CutRange
import Derived.Test.YteglffbeldlibaaPz8
namespace Go.Proofs.Yteglffbeldlibaa.Lib1
open Go.RowKit
set_option maxRecDepth 100000

set_option maxHeartbeats 8000000 in
theorem law_AddCard8 (A0 : Option Addr) (n0 c0 : Nat) (zss0 : List (List Int)) (sg1 lg1 : Int) (A1 : Option Addr) (n1 c1 : Nat) (zs1 : List Int) (a2 : Int) (w : World) (h0 : RdR w 0 w.heap.size A0 n0 zss0) (l0 : Lens n0 zss0) (h1 : Rd w 0 w.heap.size A1 n1 zs1) (l1 : n1 ≤ maxLen) :
    Calls Try.prog 12 #[.agg #[.slice A0 n0 c0], .agg #[.int .i64 sg1, .int .i64 lg1, .slice A1 n1 c1], .int .i64 a2] w fun e w' => e = .returned (.bool true) ∧ Below w.heap.size w w' := by
  have hRn := addCs_len8 zss0 sg1 lg1 zs1 a2
  generalize hRR : addCs zss0 sg1 lg1 zs1 a2 = R at hRn
  have HRR := Lib.hid hRR
  clear hRR
  obtain ⟨SS, hS⟩ : ∃ S, S = addSt zss0 sg1 lg1 zs1 a2 := ⟨_, rfl⟩
  have HS := Lib.hid hS
  obtain ⟨LL, hL⟩ : ∃ L, L = addLd zss0 sg1 lg1 zs1 a2 := ⟨_, rfl⟩
  have HL := Lib.hid hL
  obtain ⟨K, hK⟩ : ∃ K, K = addK zss0 sg1 lg1 zs1 a2 := ⟨_, rfl⟩
  have HK := Lib.hid hK
  clear hS hL hK
  have hneg : ¬ (1 : Int) + (R.length : Int) < 0 := by omega
  have hneg2 : ¬ (1 : Int) + (cnt zss0 n0 : Int) + (n1 : Int) < 0 := by omega
  have bl := Below.refl w.heap.size w
  have y0 : (w.alloc (.cells #[.slice A0 n0 c0] 57)).heap.size = w.heap.size + 1 := by simp
  have q0 := Chg.of_alloc w (.cells #[.slice A0 n0 c0] 57) 0 0
  have xb0 := SBox.new w 57 #[.slice A0 n0 c0]
  have q1 := Chg.of_alloc (w.alloc (.cells #[.slice A0 n0 c0] 57)) (.cells #[.int .i64 sg1, .int .i64 lg1, .slice A1 n1 c1] 52) 0 0
  have xb1 := SBox.new (w.alloc (.cells #[.slice A0 n0 c0] 57)) 52 #[.int .i64 sg1, .int .i64 lg1, .slice A1 n1 c1]
  rw [y0] at xb1
  have xa0 := xb0.still q1
  have xa1 := xb1
  have ca := q0.trans q1
  clear q0 q1 xb0 xb1
  have ha0 := h0.still ca
  have ha1 := h1.still ca
  have ba := Chg.above bl ca (by omega) (by omega)
  have za : w.heap.size + 2 ≤ ((w.alloc (.cells #[.slice A0 n0 c0] 57)).alloc (.cells #[.int .i64 sg1, .int .i64 lg1, .slice A1 n1 c1] 52)).heap.size := by simp
  clear bl ca y0 h0 h1
  go_enter Try.func12, Try.ntmps12
  go_wp2_with (first | (refine wpList_load_row rfl 57 _ rfl w.heap.size rfl 57 #[.slice A0 n0 c0] (0, 0) _ xa0 Try.underlying57 rfl (ldeal_info7 _) ?_) | (refine wpList_load_row rfl 52 _ rfl (w.heap.size + 1) rfl 52 #[.int .i64 sg1, .int .i64 lg1, .slice A1 n1 c1] (0, 0) _ xa1 Try.underlying52 rfl (plinfo _ _ _ _ _) ?_))
  generalize ((w.alloc (.cells #[.slice A0 n0 c0] 57)).alloc (.cells #[.int .i64 sg1, .int .i64 lg1, .slice A1 n1 c1] 52)) = w0 at ha0 ha1 xa0 xa1 ba za ⊢
  refine (szDeal A0 n0 c0 1048576 zss0 _ _ _ ha0 (by omega) (by omega) l0).mono ?_
  rintro e w1 ⟨u1, rfl, hu1, c1⟩
  have h0_1 := ha0.still c1
  have h1_2 := ha1.still c1
  have A0_3 := xa0.still c1
  have A1_4 := xa1.still c1
  have b5 := Chg.above ba c1 (by omega) (by omega)
  have t5 : w0.heap.size ≤ w1.heap.size := c1.size
  clear ha0 ha1 xa0 xa1 ba c1
  by_cases hv1 : u1 < 0
  · go_wp2_with fail
    go_ret
    exact ⟨rfl, b5⟩
  obtain ⟨hm0, hl0, hc0⟩ := Sized_le8 hu1 (by omega) rfl
  have hu1 : 0 ≤ u1 ∧ u1 ≤ 1048576 := by rcases hu1 with e | ⟨p1, p2, _⟩; omega; exact ⟨p1, p2⟩
  go_wp2_with (first | (refine wpList_load_row rfl 57 _ rfl w.heap.size rfl 57 #[.slice A0 n0 c0] (0, 0) _ A0_3 Try.underlying57 rfl (ldeal_info7 _) ?_) | (refine wpList_load_row rfl 52 _ rfl (w.heap.size + 1) rfl 52 #[.int .i64 sg1, .int .i64 lg1, .slice A1 n1 c1] (0, 0) _ A1_4 Try.underlying52 rfl (plinfo _ _ _ _ _) ?_))
  refine (szPlay sg1 lg1 A1 n1 c1 u1 _ (by omega) (by omega) l1).mono ?_
  rintro e w2 ⟨⟨u2, rfl, hu2⟩, c2⟩
  have h0_6 := h0_1.still c2
  have h1_7 := h1_2.still c2
  have A0_8 := A0_3.still c2
  have A1_9 := A1_4.still c2
  have b10 := Chg.above b5 c2 (by omega) (by omega)
  have t10 : w1.heap.size ≤ w2.heap.size := c2.size
  clear h0_1 h1_2 A0_3 A1_4 b5 c2
  by_cases hv2 : u2 < 0
  · go_wp2_with fail
    go_ret
    exact ⟨rfl, b10⟩
  have hm1 : n1 ≤ 1048576 := by omega
  go_upto_region 8 with (first | (refine wpList_load_row rfl 57 _ rfl w.heap.size rfl 57 #[.slice A0 n0 c0] (0, 0) _ A0_8 Try.underlying57 rfl (ldeal_info7 _) ?_) | (refine wpList_load_row rfl 52 _ rfl (w.heap.size + 1) rfl 52 #[.int .i64 sg1, .int .i64 lg1, .slice A1 n1 c1] (0, 0) _ A1_9 Try.underlying52 rfl (plinfo _ _ _ _ _) ?_))
  go_cut [8, 9] from 29 to 37 (fun vp vk wx => ∃ (gx : Nat) (Wd : Option Addr) (ex : Nat), vp = .pointer (some ⟨gx, 0, none⟩) ∧ vk = .int .i64 K ∧ Hid (SBox wx 29 gx #[.int .i64 SS, .int .i64 LL, .slice Wd R.length ex]) ∧ Hid (Own wx w2.heap.size wx.heap.size Wd R.length R) ∧ Hid (Chg w2 wx 0 0) ∧ Hid (w2.heap.size ≤ gx ∧ gx < wx.heap.size))
  case first =>
    have cc : Hid (Chg w2 w2.drew 0 0) := Chg.of_drew ⟨1, rfl⟩ 0 0
    have hS := Lib.hid (fun (V : World) (c : Chg w2 V 0 0) => (show (fun V => SBox V 57 w.heap.size #[.slice A0 n0 c0] ∧ SBox V 52 (w.heap.size + 1) #[.int .i64 sg1, .int .i64 lg1, .slice A1 n1 c1]) V from ⟨A0_8.still c, A1_9.still c⟩))
    have hz := Lib.hid (Nat.le_refl w2.heap.size)
    have hzd := cc.out.size
    refine wp_region_held_drew (S := fun V => SBox V 57 w.heap.size #[.slice A0 n0 c0] ∧ SBox V 52 (w.heap.size + 1) #[.int .i64 sg1, .int .i64 lg1, .slice A1 n1 c1]) (by kernel_rfl) (hS.out _ cc.out) (fun hHeld => ?_)
    refine take_slotC (i := 0) (d := some 30) (v := .agg #[.slice A0 n0 c0]) rfl (by kernel_rfl) (by kernel_rfl) (by kernel_rfl) (by kernel_rfl) (fun _ _ _ h => h) (yieldsIf_load_mid (by kernel_rfl) 57 (.tmp 3) rfl w.heap.size 0 rfl [.slice A0 n0 c0] _ (fun V hV => hV.1.range) Try.underlying57 rfl (ldeal_infoL _)) hHeld ?_
    try simp only [Act.put, List.setIfInBounds_toArray, List.set_cons_zero, List.set_cons_succ]
    refine take_slotC (i := 2) (d := some 32) (v := .agg #[.int .i64 sg1, .int .i64 lg1, .slice A1 n1 c1]) rfl (by kernel_rfl) (by kernel_rfl) (by kernel_rfl) (by kernel_rfl) (fun _ _ _ h => h) (yieldsIf_load_mid (by kernel_rfl) 52 (.tmp 4) rfl (w.heap.size + 1) 0 rfl [.int .i64 sg1, .int .i64 lg1, .slice A1 n1 c1] _ (fun V hV => hV.2.range) Try.underlying52 rfl (plinfoL _ _ _)) hHeld ?_
    try simp only [Act.put, List.setIfInBounds_toArray, List.set_cons_zero, List.set_cons_succ]
    refine take_slotC (i := 4) (d := some 34) (v := .int .i64 a2) rfl (by kernel_rfl) (by kernel_rfl) (by kernel_rfl) (by kernel_rfl) (fun _ _ _ h => h) (.inl ⟨by kernel_rfl, fun V hV => by go_simp⟩) hHeld ?_
    try simp only [Act.put, List.setIfInBounds_toArray, List.set_cons_zero, List.set_cons_succ]
    generalize w2.drew = V0 at cc hzd hHeld ⊢
    refine wpAnyH_ready (rs := [1, 9]) (by kernel_rfl) (by simp) (AllReadyH.cons (i := 1) rfl (fun K' hK' => ?c3_1) (AllReadyH.cons (i := 9) rfl (fun K' hK' => ?c3_9) AllReadyH.nil))
    case' c3_1 =>
      go_simp
      refine (toDeal A0 n0 c0 zss0 _ _ _ ((h0_6).still cc.out) hm0 hl0).mono ?_
      rintro e V1 ⟨g1, rfl, o1, st⟩
      have O0 := Lib.hid o1
      clear o1
      have sz1 : V0.heap.size ≤ V1.heap.size := st.size
      have cc := Lib.hid (cc.out.trans st)
      refine hK'.out _ _ (hS.out _ cc.out) (fun hHeld => ?_)
      clear hK' st
      try simp only [Act.put, List.setIfInBounds_toArray, List.set_cons_zero, List.set_cons_succ]
      refine wpAnyH_ready (rs := [3, 9]) (by kernel_rfl) (by simp) (AllReadyH.cons (i := 3) rfl (fun K' hK' => ?c31_3) (AllReadyH.cons (i := 9) rfl (fun K' hK' => ?c31_9) AllReadyH.nil))
      case' c31_3 =>
        go_simp
        refine (toPlay sg1 lg1 A1 n1 c1 zs1 _ _ _ ((h1_7).still cc.out) hm1).mono ?_
        rintro e V2 ⟨g3, rfl, o3, st⟩
        have O1 := Lib.hid o3
        clear o3
        have sz2 : V1.heap.size ≤ V2.heap.size := st.size
        have O0 := Lib.hid (O0.out.still st)
        have cc := Lib.hid (cc.out.trans st)
        refine hK'.out _ _ (hS.out _ cc.out) (fun hHeld => ?_)
        clear hK' st
        try simp only [Act.put, List.setIfInBounds_toArray, List.set_cons_zero, List.set_cons_succ]
        refine wpAnyH_ready (rs := [5, 9]) (by kernel_rfl) (by simp) (AllReadyH.cons (i := 5) rfl (fun K' hK' => ?c31_3_5) (AllReadyH.cons (i := 9) rfl (fun K' hK' => ?c31_3_9) AllReadyH.nil))
        case' c31_3_5 =>
          go_simp
          refine (spec_AddCard _ n0 n0 zss0 sg1 lg1 _ n1 n1 zs1 a2 _ (O0.out.rd.more (Nat.zero_le _) (by omega)) hl0 (O1.out.rd.more (Nat.zero_le _) (by omega)) hm1 (Nat.le_refl _) (fun e => by cases e)).mono ?_
          rw [HRR.out, ← HS.out, ← HL.out, ← HK.out]
          first | unfold RetPI | unfold RetPJ
          rintro e V3 ⟨u, rfl, qq, rr⟩
          obtain ⟨Wd, ex, rfl, _, _, jj⟩ := qq.form
          have st := Chg.of_below rr 0 0
          have OW := Lib.hid jj
          clear qq rr jj
          have sz3 : V2.heap.size ≤ V3.heap.size := st.size
          have O0 := Lib.hid (O0.out.still st)
          have O1 := Lib.hid (O1.out.still st)
          have cc := Lib.hid (cc.out.trans st)
          refine hK'.out _ _ (hS.out _ cc.out) (fun hHeld => ?_)
          clear hK' st
          try simp only [Act.put, List.setIfInBounds_toArray, List.set_cons_zero, List.set_cons_succ]
          refine take_slotC (i := 6) (d := some 29) (v := .tuple #[.agg #[.int .i64 SS, .int .i64 LL, .slice Wd R.length ex], .int .i64 K]) rfl (by kernel_rfl) (by kernel_rfl) (by kernel_rfl) (by kernel_rfl) (fun _ _ _ h => h) (.inl ⟨by kernel_rfl, fun V hV => by go_simp⟩) hHeld ?_
          try simp only [Act.put, List.setIfInBounds_toArray, List.set_cons_zero, List.set_cons_succ]
          refine take_slotC (i := 7) (d := some 36) (v := .agg #[.int .i64 SS, .int .i64 LL, .slice Wd R.length ex]) rfl (by kernel_rfl) (by kernel_rfl) (by kernel_rfl) (by kernel_rfl) (fun _ _ _ h => h) (.inl ⟨by kernel_rfl, fun V hV => by go_simp⟩) hHeld ?_
          try simp only [Act.put, List.setIfInBounds_toArray, List.set_cons_zero, List.set_cons_succ]
          refine take_slotC (i := 8) (d := some 37) (v := .int .i64 K) rfl (by kernel_rfl) (by kernel_rfl) (by kernel_rfl) (by kernel_rfl) (fun _ _ _ h => h) (.inl ⟨by kernel_rfl, fun V hV => by go_simp⟩) hHeld ?_
          try simp only [Act.put, List.setIfInBounds_toArray, List.set_cons_zero, List.set_cons_succ]
          refine wpAnyH_ready (rs := [9]) (by kernel_rfl) (by simp) (AllReadyH.cons (i := 9) rfl (fun K' hK' => ?c31_3_5_9) AllReadyH.nil)
          case' c31_3_5_9 =>
            go_simp
            have st := Chg.of_alloc V3 (.cells #[.int .i64 0, .int .i64 0, .slice none 0 0] 29) 0 0
            have XB := Lib.hid (SBox.new V3 29 #[.int .i64 0, .int .i64 0, .slice none 0 0])
            obtain ⟨gx, hgx⟩ : ∃ gx, gx = V3.heap.size := ⟨_, rfl⟩
            rw [← hgx] at XB
            have zg : V3.heap.size = gx := hgx.symm
            have sz4 : V3.heap.size ≤ (V3.alloc (.cells #[.int .i64 0, .int .i64 0, .slice none 0 0] 29)).heap.size := st.size
            have O0 := Lib.hid (O0.out.still st)
            have O1 := Lib.hid (O1.out.still st)
            have OW := Lib.hid (OW.out.still st)
            have cc := Lib.hid (cc.out.trans st)
            refine hK'.out _ _ (hS.out _ cc.out) (fun hHeld => ?_)
            clear hK' st
            rw [← hgx]
            have zh := XB.out.lt
            generalize (V3.alloc (.cells #[.int .i64 0, .int .i64 0, .slice none 0 0] 29)) = V4 at cc XB O0 O1 OW sz4 zh hHeld ⊢
            clear hgx
            try simp only [Act.put, List.setIfInBounds_toArray, List.set_cons_zero, List.set_cons_succ]
            have rc : Chg V4 (V4.setRow gx #[.int .i64 SS, .int .i64 LL, .slice Wd R.length ex]) gx (gx + 1) := ⟨rfl, rfl, rfl, by rw [setRow_size]; exact Nat.le_refl _, fun k _ ho => setRow_other _ gx k _ (by omega)⟩
            have cz := cc.out.rowC (show w2.heap.size ≤ gx by omega) #[.int .i64 SS, .int .i64 LL, .slice Wd R.length ex]
            have XS := setRow_heap V4 gx _ #[.int .i64 SS, .int .i64 LL, .slice Wd R.length ex] _ _ XB.out
            have OS := (OW.out.chg rc (by omega)).more (lo' := w2.heap.size) (hi' := (V4.setRow gx #[.int .i64 SS, .int .i64 LL, .slice Wd R.length ex]).heap.size) (by omega) (by rw [setRow_size]; omega)
            have zf : w2.heap.size ≤ gx ∧ gx < (V4.setRow gx #[.int .i64 SS, .int .i64 LL, .slice Wd R.length ex]).heap.size := by rw [setRow_size]; exact ⟨by omega, XB.out.lt⟩
            refine wpAnyH_ready (rs := [10]) (by kernel_rfl) (by simp) (AllReadyH.cons (i := 10) rfl (fun K' hK' => ?_) AllReadyH.nil)
            refine step_of_wp7 rfl (wp_store_row 29 _ _ rfl gx #[.int .i64 SS, .int .i64 LL, .slice Wd R.length ex] rfl rfl 29 #[.int .i64 0, .int .i64 0, .slice none 0 0] XB.out (play_info _ _ _ _ _) rfl (play_cells _ _ _ _ _) ?_)
            refine hK'.out _ _ (hS.out _ cz) (fun hHeld => ?_)
            clear hK'
            try simp only [Act.put, List.setIfInBounds_toArray]
            refine take_slotC (i := 11) (d := some 9) (v := .int .i64 K) rfl (by kernel_rfl) (by kernel_rfl) (by kernel_rfl) (by kernel_rfl) (fun _ _ _ h => h) (.inl ⟨by kernel_rfl, fun V hV => by go_simp⟩) hHeld ?_
            try simp only [Act.put]
            refine wpAnyH_done (by kernel_rfl) ?_ _
            go_wp2_with fail
            go_meet
            exact ⟨gx, Wd, ex, rfl, rfl, XS, OS, cz, zf⟩
        case' c31_3_9 =>
          go_simp
          have st := Chg.of_alloc V2 (.cells #[.int .i64 0, .int .i64 0, .slice none 0 0] 29) 0 0
          have XB := Lib.hid (SBox.new V2 29 #[.int .i64 0, .int .i64 0, .slice none 0 0])
          obtain ⟨gx, hgx⟩ : ∃ gx, gx = V2.heap.size := ⟨_, rfl⟩
          rw [← hgx] at XB
          have zg : V2.heap.size = gx := hgx.symm
          have sz3 : V2.heap.size ≤ (V2.alloc (.cells #[.int .i64 0, .int .i64 0, .slice none 0 0] 29)).heap.size := st.size
          have O0 := Lib.hid (O0.out.still st)
          have O1 := Lib.hid (O1.out.still st)
          have cc := Lib.hid (cc.out.trans st)
          refine hK'.out _ _ (hS.out _ cc.out) (fun hHeld => ?_)
          clear hK' st
          rw [← hgx]
          have zh := XB.out.lt
          generalize (V2.alloc (.cells #[.int .i64 0, .int .i64 0, .slice none 0 0] 29)) = V3 at cc XB O0 O1 sz3 zh hHeld ⊢
          clear hgx
          try simp only [Act.put, List.setIfInBounds_toArray, List.set_cons_zero, List.set_cons_succ]
          refine wpAnyH_ready (rs := [5]) (by kernel_rfl) (by simp) (AllReadyH.cons (i := 5) rfl (fun K' hK' => ?c31_3_9_5) AllReadyH.nil)
          case' c31_3_9_5 =>
            go_simp
            refine (spec_AddCard _ n0 n0 zss0 sg1 lg1 _ n1 n1 zs1 a2 _ (O0.out.rd.more (Nat.zero_le _) (by omega)) hl0 (O1.out.rd.more (Nat.zero_le _) (by omega)) hm1 (Nat.le_refl _) (fun e => by cases e)).mono ?_
            rw [HRR.out, ← HS.out, ← HL.out, ← HK.out]
            first | unfold RetPI | unfold RetPJ
            rintro e V4 ⟨u, rfl, qq, rr⟩
            obtain ⟨Wd, ex, rfl, _, _, jj⟩ := qq.form
            have st := Chg.of_below rr 0 0
            have OW := Lib.hid jj
            clear qq rr jj
            have sz4 : V3.heap.size ≤ V4.heap.size := st.size
            have O0 := Lib.hid (O0.out.still st)
            have O1 := Lib.hid (O1.out.still st)
            have XB := Lib.hid (XB.out.still st)
            have cc := Lib.hid (cc.out.trans st)
            refine hK'.out _ _ (hS.out _ cc.out) (fun hHeld => ?_)
            clear hK' st
            try simp only [Act.put, List.setIfInBounds_toArray, List.set_cons_zero, List.set_cons_succ]
            refine take_slotC (i := 6) (d := some 29) (v := .tuple #[.agg #[.int .i64 SS, .int .i64 LL, .slice Wd R.length ex], .int .i64 K]) rfl (by kernel_rfl) (by kernel_rfl) (by kernel_rfl) (by kernel_rfl) (fun _ _ _ h => h) (.inl ⟨by kernel_rfl, fun V hV => by go_simp⟩) hHeld ?_
            try simp only [Act.put, List.setIfInBounds_toArray, List.set_cons_zero, List.set_cons_succ]
            refine take_slotC (i := 7) (d := some 36) (v := .agg #[.int .i64 SS, .int .i64 LL, .slice Wd R.length ex]) rfl (by kernel_rfl) (by kernel_rfl) (by kernel_rfl) (by kernel_rfl) (fun _ _ _ h => h) (.inl ⟨by kernel_rfl, fun V hV => by go_simp⟩) hHeld ?_
            try simp only [Act.put, List.setIfInBounds_toArray, List.set_cons_zero, List.set_cons_succ]
            refine take_slotC (i := 8) (d := some 37) (v := .int .i64 K) rfl (by kernel_rfl) (by kernel_rfl) (by kernel_rfl) (by kernel_rfl) (fun _ _ _ h => h) (.inl ⟨by kernel_rfl, fun V hV => by go_simp⟩) hHeld ?_
            try simp only [Act.put, List.setIfInBounds_toArray, List.set_cons_zero, List.set_cons_succ]
            have rc : Chg V4 (V4.setRow gx #[.int .i64 SS, .int .i64 LL, .slice Wd R.length ex]) gx (gx + 1) := ⟨rfl, rfl, rfl, by rw [setRow_size]; exact Nat.le_refl _, fun k _ ho => setRow_other _ gx k _ (by omega)⟩
            have cz := cc.out.rowC (show w2.heap.size ≤ gx by omega) #[.int .i64 SS, .int .i64 LL, .slice Wd R.length ex]
            have XS := setRow_heap V4 gx _ #[.int .i64 SS, .int .i64 LL, .slice Wd R.length ex] _ _ XB.out
            have OS := (OW.out.chg rc (by omega)).more (lo' := w2.heap.size) (hi' := (V4.setRow gx #[.int .i64 SS, .int .i64 LL, .slice Wd R.length ex]).heap.size) (by omega) (by rw [setRow_size]; omega)
            have zf : w2.heap.size ≤ gx ∧ gx < (V4.setRow gx #[.int .i64 SS, .int .i64 LL, .slice Wd R.length ex]).heap.size := by rw [setRow_size]; exact ⟨by omega, XB.out.lt⟩
            refine wpAnyH_ready (rs := [10]) (by kernel_rfl) (by simp) (AllReadyH.cons (i := 10) rfl (fun K' hK' => ?_) AllReadyH.nil)
            refine step_of_wp7 rfl (wp_store_row 29 _ _ rfl gx #[.int .i64 SS, .int .i64 LL, .slice Wd R.length ex] rfl rfl 29 #[.int .i64 0, .int .i64 0, .slice none 0 0] XB.out (play_info _ _ _ _ _) rfl (play_cells _ _ _ _ _) ?_)
            refine hK'.out _ _ (hS.out _ cz) (fun hHeld => ?_)
            clear hK'
            try simp only [Act.put, List.setIfInBounds_toArray]
            refine take_slotC (i := 11) (d := some 9) (v := .int .i64 K) rfl (by kernel_rfl) (by kernel_rfl) (by kernel_rfl) (by kernel_rfl) (fun _ _ _ h => h) (.inl ⟨by kernel_rfl, fun V hV => by go_simp⟩) hHeld ?_
            try simp only [Act.put]
            refine wpAnyH_done (by kernel_rfl) ?_ _
            go_wp2_with fail
            go_meet
            exact ⟨gx, Wd, ex, rfl, rfl, XS, OS, cz, zf⟩
      case' c31_9 =>
        go_simp
        have st := Chg.of_alloc V1 (.cells #[.int .i64 0, .int .i64 0, .slice none 0 0] 29) 0 0
        have XB := Lib.hid (SBox.new V1 29 #[.int .i64 0, .int .i64 0, .slice none 0 0])
        obtain ⟨gx, hgx⟩ : ∃ gx, gx = V1.heap.size := ⟨_, rfl⟩
        rw [← hgx] at XB
        have zg : V1.heap.size = gx := hgx.symm
        have sz2 : V1.heap.size ≤ (V1.alloc (.cells #[.int .i64 0, .int .i64 0, .slice none 0 0] 29)).heap.size := st.size
        have O0 := Lib.hid (O0.out.still st)
        have cc := Lib.hid (cc.out.trans st)
        refine hK'.out _ _ (hS.out _ cc.out) (fun hHeld => ?_)
        clear hK' st
        rw [← hgx]
        have zh := XB.out.lt
        generalize (V1.alloc (.cells #[.int .i64 0, .int .i64 0, .slice none 0 0] 29)) = V2 at cc XB O0 sz2 zh hHeld ⊢
        clear hgx
        try simp only [Act.put, List.setIfInBounds_toArray, List.set_cons_zero, List.set_cons_succ]
        refine wpAnyH_ready (rs := [3]) (by kernel_rfl) (by simp) (AllReadyH.cons (i := 3) rfl (fun K' hK' => ?c31_9_3) AllReadyH.nil)
        case' c31_9_3 =>
          go_simp
          refine (toPlay sg1 lg1 A1 n1 c1 zs1 _ _ _ ((h1_7).still cc.out) hm1).mono ?_
          rintro e V3 ⟨g3, rfl, o3, st⟩
          have O1 := Lib.hid o3
          clear o3
          have sz3 : V2.heap.size ≤ V3.heap.size := st.size
          have O0 := Lib.hid (O0.out.still st)
          have XB := Lib.hid (XB.out.still st)
          have cc := Lib.hid (cc.out.trans st)
          refine hK'.out _ _ (hS.out _ cc.out) (fun hHeld => ?_)
          clear hK' st
          try simp only [Act.put, List.setIfInBounds_toArray, List.set_cons_zero, List.set_cons_succ]
          refine wpAnyH_ready (rs := [5]) (by kernel_rfl) (by simp) (AllReadyH.cons (i := 5) rfl (fun K' hK' => ?c31_9_3_5) AllReadyH.nil)
          case' c31_9_3_5 =>
            go_simp
            refine (spec_AddCard _ n0 n0 zss0 sg1 lg1 _ n1 n1 zs1 a2 _ (O0.out.rd.more (Nat.zero_le _) (by omega)) hl0 (O1.out.rd.more (Nat.zero_le _) (by omega)) hm1 (Nat.le_refl _) (fun e => by cases e)).mono ?_
            rw [HRR.out, ← HS.out, ← HL.out, ← HK.out]
            first | unfold RetPI | unfold RetPJ
            rintro e V4 ⟨u, rfl, qq, rr⟩
            obtain ⟨Wd, ex, rfl, _, _, jj⟩ := qq.form
            have st := Chg.of_below rr 0 0
            have OW := Lib.hid jj
            clear qq rr jj
            have sz4 : V3.heap.size ≤ V4.heap.size := st.size
            have O0 := Lib.hid (O0.out.still st)
            have O1 := Lib.hid (O1.out.still st)
            have XB := Lib.hid (XB.out.still st)
            have cc := Lib.hid (cc.out.trans st)
            refine hK'.out _ _ (hS.out _ cc.out) (fun hHeld => ?_)
            clear hK' st
            try simp only [Act.put, List.setIfInBounds_toArray, List.set_cons_zero, List.set_cons_succ]
            refine take_slotC (i := 6) (d := some 29) (v := .tuple #[.agg #[.int .i64 SS, .int .i64 LL, .slice Wd R.length ex], .int .i64 K]) rfl (by kernel_rfl) (by kernel_rfl) (by kernel_rfl) (by kernel_rfl) (fun _ _ _ h => h) (.inl ⟨by kernel_rfl, fun V hV => by go_simp⟩) hHeld ?_
            try simp only [Act.put, List.setIfInBounds_toArray, List.set_cons_zero, List.set_cons_succ]
            refine take_slotC (i := 7) (d := some 36) (v := .agg #[.int .i64 SS, .int .i64 LL, .slice Wd R.length ex]) rfl (by kernel_rfl) (by kernel_rfl) (by kernel_rfl) (by kernel_rfl) (fun _ _ _ h => h) (.inl ⟨by kernel_rfl, fun V hV => by go_simp⟩) hHeld ?_
            try simp only [Act.put, List.setIfInBounds_toArray, List.set_cons_zero, List.set_cons_succ]
            refine take_slotC (i := 8) (d := some 37) (v := .int .i64 K) rfl (by kernel_rfl) (by kernel_rfl) (by kernel_rfl) (by kernel_rfl) (fun _ _ _ h => h) (.inl ⟨by kernel_rfl, fun V hV => by go_simp⟩) hHeld ?_
            try simp only [Act.put, List.setIfInBounds_toArray, List.set_cons_zero, List.set_cons_succ]
            have rc : Chg V4 (V4.setRow gx #[.int .i64 SS, .int .i64 LL, .slice Wd R.length ex]) gx (gx + 1) := ⟨rfl, rfl, rfl, by rw [setRow_size]; exact Nat.le_refl _, fun k _ ho => setRow_other _ gx k _ (by omega)⟩
            have cz := cc.out.rowC (show w2.heap.size ≤ gx by omega) #[.int .i64 SS, .int .i64 LL, .slice Wd R.length ex]
            have XS := setRow_heap V4 gx _ #[.int .i64 SS, .int .i64 LL, .slice Wd R.length ex] _ _ XB.out
            have OS := (OW.out.chg rc (by omega)).more (lo' := w2.heap.size) (hi' := (V4.setRow gx #[.int .i64 SS, .int .i64 LL, .slice Wd R.length ex]).heap.size) (by omega) (by rw [setRow_size]; omega)
            have zf : w2.heap.size ≤ gx ∧ gx < (V4.setRow gx #[.int .i64 SS, .int .i64 LL, .slice Wd R.length ex]).heap.size := by rw [setRow_size]; exact ⟨by omega, XB.out.lt⟩
            refine wpAnyH_ready (rs := [10]) (by kernel_rfl) (by simp) (AllReadyH.cons (i := 10) rfl (fun K' hK' => ?_) AllReadyH.nil)
            refine step_of_wp7 rfl (wp_store_row 29 _ _ rfl gx #[.int .i64 SS, .int .i64 LL, .slice Wd R.length ex] rfl rfl 29 #[.int .i64 0, .int .i64 0, .slice none 0 0] XB.out (play_info _ _ _ _ _) rfl (play_cells _ _ _ _ _) ?_)
            refine hK'.out _ _ (hS.out _ cz) (fun hHeld => ?_)
            clear hK'
            try simp only [Act.put, List.setIfInBounds_toArray]
            refine take_slotC (i := 11) (d := some 9) (v := .int .i64 K) rfl (by kernel_rfl) (by kernel_rfl) (by kernel_rfl) (by kernel_rfl) (fun _ _ _ h => h) (.inl ⟨by kernel_rfl, fun V hV => by go_simp⟩) hHeld ?_
            try simp only [Act.put]
            refine wpAnyH_done (by kernel_rfl) ?_ _
            go_wp2_with fail
            go_meet
            exact ⟨gx, Wd, ex, rfl, rfl, XS, OS, cz, zf⟩
    case' c3_9 =>
      go_simp
      have st := Chg.of_alloc V0 (.cells #[.int .i64 0, .int .i64 0, .slice none 0 0] 29) 0 0
      have XB := Lib.hid (SBox.new V0 29 #[.int .i64 0, .int .i64 0, .slice none 0 0])
      obtain ⟨gx, hgx⟩ : ∃ gx, gx = V0.heap.size := ⟨_, rfl⟩
      rw [← hgx] at XB
      have zg : V0.heap.size = gx := hgx.symm
      have sz1 : V0.heap.size ≤ (V0.alloc (.cells #[.int .i64 0, .int .i64 0, .slice none 0 0] 29)).heap.size := st.size
      have cc := Lib.hid (cc.out.trans st)
      refine hK'.out _ _ (hS.out _ cc.out) (fun hHeld => ?_)
      clear hK' st
      rw [← hgx]
      have zh := XB.out.lt
      generalize (V0.alloc (.cells #[.int .i64 0, .int .i64 0, .slice none 0 0] 29)) = V1 at cc XB sz1 zh hHeld ⊢
      clear hgx
      try simp only [Act.put, List.setIfInBounds_toArray, List.set_cons_zero, List.set_cons_succ]
      refine wpAnyH_ready (rs := [1]) (by kernel_rfl) (by simp) (AllReadyH.cons (i := 1) rfl (fun K' hK' => ?c39_1) AllReadyH.nil)
      case' c39_1 =>
        go_simp
        refine (toDeal A0 n0 c0 zss0 _ _ _ ((h0_6).still cc.out) hm0 hl0).mono ?_
        rintro e V2 ⟨g1, rfl, o1, st⟩
        have O0 := Lib.hid o1
        clear o1
        have sz2 : V1.heap.size ≤ V2.heap.size := st.size
        have XB := Lib.hid (XB.out.still st)
        have cc := Lib.hid (cc.out.trans st)
        refine hK'.out _ _ (hS.out _ cc.out) (fun hHeld => ?_)
        clear hK' st
        try simp only [Act.put, List.setIfInBounds_toArray, List.set_cons_zero, List.set_cons_succ]
        refine wpAnyH_ready (rs := [3]) (by kernel_rfl) (by simp) (AllReadyH.cons (i := 3) rfl (fun K' hK' => ?c39_1_3) AllReadyH.nil)
        case' c39_1_3 =>
          go_simp
          refine (toPlay sg1 lg1 A1 n1 c1 zs1 _ _ _ ((h1_7).still cc.out) hm1).mono ?_
          rintro e V3 ⟨g3, rfl, o3, st⟩
          have O1 := Lib.hid o3
          clear o3
          have sz3 : V2.heap.size ≤ V3.heap.size := st.size
          have O0 := Lib.hid (O0.out.still st)
          have XB := Lib.hid (XB.out.still st)
          have cc := Lib.hid (cc.out.trans st)
          refine hK'.out _ _ (hS.out _ cc.out) (fun hHeld => ?_)
          clear hK' st
          try simp only [Act.put, List.setIfInBounds_toArray, List.set_cons_zero, List.set_cons_succ]
          refine wpAnyH_ready (rs := [5]) (by kernel_rfl) (by simp) (AllReadyH.cons (i := 5) rfl (fun K' hK' => ?c39_1_3_5) AllReadyH.nil)
          case' c39_1_3_5 =>
            go_simp
            refine (spec_AddCard _ n0 n0 zss0 sg1 lg1 _ n1 n1 zs1 a2 _ (O0.out.rd.more (Nat.zero_le _) (by omega)) hl0 (O1.out.rd.more (Nat.zero_le _) (by omega)) hm1 (Nat.le_refl _) (fun e => by cases e)).mono ?_
            rw [HRR.out, ← HS.out, ← HL.out, ← HK.out]
            first | unfold RetPI | unfold RetPJ
            rintro e V4 ⟨u, rfl, qq, rr⟩
            obtain ⟨Wd, ex, rfl, _, _, jj⟩ := qq.form
            have st := Chg.of_below rr 0 0
            have OW := Lib.hid jj
            clear qq rr jj
            have sz4 : V3.heap.size ≤ V4.heap.size := st.size
            have O0 := Lib.hid (O0.out.still st)
            have O1 := Lib.hid (O1.out.still st)
            have XB := Lib.hid (XB.out.still st)
            have cc := Lib.hid (cc.out.trans st)
            refine hK'.out _ _ (hS.out _ cc.out) (fun hHeld => ?_)
            clear hK' st
            try simp only [Act.put, List.setIfInBounds_toArray, List.set_cons_zero, List.set_cons_succ]
            refine take_slotC (i := 6) (d := some 29) (v := .tuple #[.agg #[.int .i64 SS, .int .i64 LL, .slice Wd R.length ex], .int .i64 K]) rfl (by kernel_rfl) (by kernel_rfl) (by kernel_rfl) (by kernel_rfl) (fun _ _ _ h => h) (.inl ⟨by kernel_rfl, fun V hV => by go_simp⟩) hHeld ?_
            try simp only [Act.put, List.setIfInBounds_toArray, List.set_cons_zero, List.set_cons_succ]
            refine take_slotC (i := 7) (d := some 36) (v := .agg #[.int .i64 SS, .int .i64 LL, .slice Wd R.length ex]) rfl (by kernel_rfl) (by kernel_rfl) (by kernel_rfl) (by kernel_rfl) (fun _ _ _ h => h) (.inl ⟨by kernel_rfl, fun V hV => by go_simp⟩) hHeld ?_
            try simp only [Act.put, List.setIfInBounds_toArray, List.set_cons_zero, List.set_cons_succ]
            refine take_slotC (i := 8) (d := some 37) (v := .int .i64 K) rfl (by kernel_rfl) (by kernel_rfl) (by kernel_rfl) (by kernel_rfl) (fun _ _ _ h => h) (.inl ⟨by kernel_rfl, fun V hV => by go_simp⟩) hHeld ?_
            try simp only [Act.put, List.setIfInBounds_toArray, List.set_cons_zero, List.set_cons_succ]
            have rc : Chg V4 (V4.setRow gx #[.int .i64 SS, .int .i64 LL, .slice Wd R.length ex]) gx (gx + 1) := ⟨rfl, rfl, rfl, by rw [setRow_size]; exact Nat.le_refl _, fun k _ ho => setRow_other _ gx k _ (by omega)⟩
            have cz := cc.out.rowC (show w2.heap.size ≤ gx by omega) #[.int .i64 SS, .int .i64 LL, .slice Wd R.length ex]
            have XS := setRow_heap V4 gx _ #[.int .i64 SS, .int .i64 LL, .slice Wd R.length ex] _ _ XB.out
            have OS := (OW.out.chg rc (by omega)).more (lo' := w2.heap.size) (hi' := (V4.setRow gx #[.int .i64 SS, .int .i64 LL, .slice Wd R.length ex]).heap.size) (by omega) (by rw [setRow_size]; omega)
            have zf : w2.heap.size ≤ gx ∧ gx < (V4.setRow gx #[.int .i64 SS, .int .i64 LL, .slice Wd R.length ex]).heap.size := by rw [setRow_size]; exact ⟨by omega, XB.out.lt⟩
            refine wpAnyH_ready (rs := [10]) (by kernel_rfl) (by simp) (AllReadyH.cons (i := 10) rfl (fun K' hK' => ?_) AllReadyH.nil)
            refine step_of_wp7 rfl (wp_store_row 29 _ _ rfl gx #[.int .i64 SS, .int .i64 LL, .slice Wd R.length ex] rfl rfl 29 #[.int .i64 0, .int .i64 0, .slice none 0 0] XB.out (play_info _ _ _ _ _) rfl (play_cells _ _ _ _ _) ?_)
            refine hK'.out _ _ (hS.out _ cz) (fun hHeld => ?_)
            clear hK'
            try simp only [Act.put, List.setIfInBounds_toArray]
            refine take_slotC (i := 11) (d := some 9) (v := .int .i64 K) rfl (by kernel_rfl) (by kernel_rfl) (by kernel_rfl) (by kernel_rfl) (fun _ _ _ h => h) (.inl ⟨by kernel_rfl, fun V hV => by go_simp⟩) hHeld ?_
            try simp only [Act.put]
            refine wpAnyH_done (by kernel_rfl) ?_ _
            go_wp2_with fail
            go_meet
            exact ⟨gx, Wd, ex, rfl, rfl, XS, OS, cz, zf⟩
  case rest =>
    obtain ⟨gx3, Wd3, ex3, rfl, rfl, hx3, ho3, hc3, hz3⟩ := hcut
    have c3 := hc3.out
    have zz3 := hz3.out
    have x3 := hx3.out
    have j3 := ho3.out
    clear hc3 hz3 hx3 ho3
    generalize wc = w3 at c3 zz3 x3 j3 ⊢
    have h0_11 := h0_6.still c3
    have h1_12 := h1_7.still c3
    have A0_13 := A0_8.still c3
    have A1_14 := A1_9.still c3
    have b15 := Chg.above b10 c3 (by omega) (by omega)
    have t15 : w2.heap.size ≤ w3.heap.size := c3.size
    clear h0_6 h1_7 A0_8 A1_9 b10 c3
    go_wp2_with (first | (refine wpList_load_row rfl 57 _ rfl w.heap.size rfl 57 #[.slice A0 n0 c0] (0, 0) _ A0_13 Try.underlying57 rfl (ldeal_info7 _) ?_) | (refine wpList_load_row rfl 52 _ rfl (w.heap.size + 1) rfl 52 #[.int .i64 sg1, .int .i64 lg1, .slice A1 n1 c1] (0, 0) _ A1_14 Try.underlying52 rfl (plinfo _ _ _ _ _) ?_) | (refine wpList_load_row rfl 29 _ rfl gx3 rfl 29 #[.int .i64 SS, .int .i64 LL, .slice Wd3 R.length ex3] (0, 0) _ x3 Try.underlying29 rfl (play_info _ _ _ _ _) ?_))
    refine (toDeal A0 n0 c0 zss0 _ _ _ h0_11 hm0 hl0).mono ?_
    rintro e w4 ⟨g4, rfl, o4, c4⟩
    have h0_16 := h0_11.still c4
    have h1_17 := h1_12.still c4
    have A0_18 := A0_13.still c4
    have A1_19 := A1_14.still c4
    have W_20 := j3.still c4
    have bW_21 := x3.still c4
    have b22 := Chg.above b15 c4 (by omega) (by omega)
    have t22 : w3.heap.size ≤ w4.heap.size := c4.size
    clear h0_11 h1_12 A0_13 A1_14 j3 x3 b15 c4
    have x5 := SBox.new w4 26 #[.slice (some ⟨g4, 0, none⟩) n0 n0]
    have a5 := Chg.of_alloc w4 (.cells #[.slice (some ⟨g4, 0, none⟩) n0 n0] 26) 0 0
    have z5 : w4.heap.size < (w4.alloc (.cells #[.slice (some ⟨g4, 0, none⟩) n0 n0] 26)).heap.size := by simp
    have h0_23 := h0_16.still a5
    have h1_24 := h1_17.still a5
    have A0_25 := A0_18.still a5
    have A1_26 := A1_19.still a5
    have W_27 := W_20.still a5
    have bW_28 := bW_21.still a5
    have x0_29 := o4.still a5
    have b30 := Chg.above b22 a5 (by omega) (by omega)
    clear h0_16 h1_17 A0_18 A1_19 W_20 bW_21 o4 b22 a5
    go_wp2_with (first | (refine wpList_load_row rfl 57 _ rfl w.heap.size rfl 57 #[.slice A0 n0 c0] (0, 0) _ A0_25 Try.underlying57 rfl (ldeal_info7 _) ?_) | (refine wpList_load_row rfl 52 _ rfl (w.heap.size + 1) rfl 52 #[.int .i64 sg1, .int .i64 lg1, .slice A1 n1 c1] (0, 0) _ A1_26 Try.underlying52 rfl (plinfo _ _ _ _ _) ?_) | (refine wpList_load_row rfl 29 _ rfl gx3 rfl 29 #[.int .i64 SS, .int .i64 LL, .slice Wd3 R.length ex3] (0, 0) _ bW_28 Try.underlying29 rfl (play_info _ _ _ _ _) ?_) | (refine wpList_load_row rfl 26 _ rfl w4.heap.size rfl 26 #[.slice (some ⟨g4, 0, none⟩) n0 n0] (0, 0) _ x5 Try.underlying26 rfl (deal_info7 _) ?_))
    generalize w4.alloc (.cells #[.slice (some ⟨g4, 0, none⟩) n0 n0] 26) = v5 at h0_23 h1_24 A0_25 A1_26 W_27 bW_28 x0_29 x5 b30 z5 ⊢
    refine (toPlay sg1 lg1 A1 n1 c1 zs1 _ _ _ h1_24 hm1).mono ?_
    rintro e w6 ⟨g6, rfl, o6, c6⟩
    have h0_31 := h0_23.still c6
    have h1_32 := h1_24.still c6
    have A0_33 := A0_25.still c6
    have A1_34 := A1_26.still c6
    have W_35 := W_27.still c6
    have bW_36 := bW_28.still c6
    have x0_37 := x0_29.still c6
    have bx0_38 := x5.still c6
    have b39 := Chg.above b30 c6 (by omega) (by omega)
    have t39 : v5.heap.size ≤ w6.heap.size := c6.size
    clear h0_23 h1_24 A0_25 A1_26 W_27 bW_28 x0_29 x5 b30 c6
    have x7 := SBox.row w6 29 #[.int .i64 0, .int .i64 0, .slice none 0 0] #[.int .i64 sg1, .int .i64 lg1, .slice (some ⟨g6, 0, none⟩) n1 n1]
    have a7 := chg_row w6 29 #[.int .i64 0, .int .i64 0, .slice none 0 0] #[.int .i64 sg1, .int .i64 lg1, .slice (some ⟨g6, 0, none⟩) n1 n1]
    have z7 : w6.heap.size < ((w6.alloc (.cells #[.int .i64 0, .int .i64 0, .slice none 0 0] 29)).setRow w6.heap.size #[.int .i64 sg1, .int .i64 lg1, .slice (some ⟨g6, 0, none⟩) n1 n1]).heap.size := by rw [row_size]; omega
    have h0_40 := h0_31.still a7
    have h1_41 := h1_32.still a7
    have A0_42 := A0_33.still a7
    have A1_43 := A1_34.still a7
    have W_44 := W_35.still a7
    have bW_45 := bW_36.still a7
    have x0_46 := x0_37.still a7
    have bx0_47 := bx0_38.still a7
    have x1_48 := o6.still a7
    have b49 := Chg.above b39 a7 (by omega) (by omega)
    clear h0_31 h1_32 A0_33 A1_34 W_35 bW_36 x0_37 bx0_38 o6 b39 a7
    go_wp2_with (first | (refine wpList_store_row rfl 29 _ _ rfl w6.heap.size #[.int .i64 sg1, .int .i64 lg1, .slice (some ⟨g6, 0, none⟩) n1 n1] rfl rfl 29 #[.int .i64 0, .int .i64 0, .slice none 0 0] (heap_alloc_new _ _) (play_info _ _ _ _ _) rfl (play_cells _ _ _ _ _) ?_; generalize (w6.alloc (.cells #[.int .i64 0, .int .i64 0, .slice none 0 0] 29)).setRow w6.heap.size #[.int .i64 sg1, .int .i64 lg1, .slice (some ⟨g6, 0, none⟩) n1 n1] = v7 at h0_40 h1_41 A0_42 A1_43 W_44 bW_45 x0_46 bx0_47 x1_48 x7 b49 z7 ⊢) | (refine wpList_load_row rfl 57 _ rfl w.heap.size rfl 57 #[.slice A0 n0 c0] (0, 0) _ A0_42 Try.underlying57 rfl (ldeal_info7 _) ?_) | (refine wpList_load_row rfl 52 _ rfl (w.heap.size + 1) rfl 52 #[.int .i64 sg1, .int .i64 lg1, .slice A1 n1 c1] (0, 0) _ A1_43 Try.underlying52 rfl (plinfo _ _ _ _ _) ?_) | (refine wpList_load_row rfl 29 _ rfl gx3 rfl 29 #[.int .i64 SS, .int .i64 LL, .slice Wd3 R.length ex3] (0, 0) _ bW_45 Try.underlying29 rfl (play_info _ _ _ _ _) ?_) | (refine wpList_load_row rfl 26 _ rfl w4.heap.size rfl 26 #[.slice (some ⟨g4, 0, none⟩) n0 n0] (0, 0) _ bx0_47 Try.underlying26 rfl (deal_info7 _) ?_) | (refine wpList_load_row rfl 29 _ rfl w6.heap.size rfl 29 #[.int .i64 sg1, .int .i64 lg1, .slice (some ⟨g6, 0, none⟩) n1 n1] (0, 0) _ x7 Try.underlying29 rfl (play_info _ _ _ _ _) ?_))
    refine (impl_AddCard _ n0 n0 zss0 sg1 lg1 _ n1 n1 zs1 a2 _ (x0_46.rd.more (Nat.zero_le _) (by omega)) hl0 (x1_48.rd.more (Nat.zero_le _) (by omega)) hm1 (Nat.le_refl _) (fun e => by cases e)).mono ?_
    rw [HRR.out, ← HS.out, ← HL.out, ← HK.out]
    first | unfold RetPI | unfold RetPJ
    rintro e w8 ⟨u8, rfl, q8, r8⟩
    obtain ⟨W8, e8, rfl, _, _, j8⟩ := q8.form
    have c8 := Chg.of_below r8 0 0
    clear q8 r8
    have h0_50 := h0_40.still c8
    have h1_51 := h1_41.still c8
    have A0_52 := A0_42.still c8
    have A1_53 := A1_43.still c8
    have W_54 := W_44.still c8
    have bW_55 := bW_45.still c8
    have x0_56 := x0_46.still c8
    have bx0_57 := bx0_47.still c8
    have x1_58 := x1_48.still c8
    have bx1_59 := x7.still c8
    have b60 := Chg.above b49 c8 (by omega) (by omega)
    have t60 : v7.heap.size ≤ w8.heap.size := c8.size
    clear h0_40 h1_41 A0_42 A1_43 W_44 bW_45 x0_46 bx0_47 x1_48 x7 b49 c8
    have x9 := SBox.row w8 29 #[.int .i64 0, .int .i64 0, .slice none 0 0] #[.int .i64 SS, .int .i64 LL, .slice W8 R.length e8]
    have a9 := chg_row w8 29 #[.int .i64 0, .int .i64 0, .slice none 0 0] #[.int .i64 SS, .int .i64 LL, .slice W8 R.length e8]
    have z9 : w8.heap.size < ((w8.alloc (.cells #[.int .i64 0, .int .i64 0, .slice none 0 0] 29)).setRow w8.heap.size #[.int .i64 SS, .int .i64 LL, .slice W8 R.length e8]).heap.size := by rw [row_size]; omega
    have h0_61 := h0_50.still a9
    have h1_62 := h1_51.still a9
    have A0_63 := A0_52.still a9
    have A1_64 := A1_53.still a9
    have W_65 := W_54.still a9
    have bW_66 := bW_55.still a9
    have x0_67 := x0_56.still a9
    have bx0_68 := bx0_57.still a9
    have x1_69 := x1_58.still a9
    have bx1_70 := bx1_59.still a9
    have G_71 := j8.still a9
    have b72 := Chg.above b60 a9 (by omega) (by omega)
    clear h0_50 h1_51 A0_52 A1_53 W_54 bW_55 x0_56 bx0_57 x1_58 bx1_59 j8 b60 a9
    go_wp2_with (first | (refine wpList_store_row rfl 29 _ _ rfl w8.heap.size #[.int .i64 SS, .int .i64 LL, .slice W8 R.length e8] rfl rfl 29 #[.int .i64 0, .int .i64 0, .slice none 0 0] (heap_alloc_new _ _) (play_info _ _ _ _ _) rfl (play_cells _ _ _ _ _) ?_; generalize (w8.alloc (.cells #[.int .i64 0, .int .i64 0, .slice none 0 0] 29)).setRow w8.heap.size #[.int .i64 SS, .int .i64 LL, .slice W8 R.length e8] = v9 at h0_61 h1_62 A0_63 A1_64 W_65 bW_66 x0_67 bx0_68 x1_69 bx1_70 G_71 x9 b72 z9 ⊢) | (refine wpList_load_row rfl 57 _ rfl w.heap.size rfl 57 #[.slice A0 n0 c0] (0, 0) _ A0_63 Try.underlying57 rfl (ldeal_info7 _) ?_) | (refine wpList_load_row rfl 52 _ rfl (w.heap.size + 1) rfl 52 #[.int .i64 sg1, .int .i64 lg1, .slice A1 n1 c1] (0, 0) _ A1_64 Try.underlying52 rfl (plinfo _ _ _ _ _) ?_) | (refine wpList_load_row rfl 29 _ rfl gx3 rfl 29 #[.int .i64 SS, .int .i64 LL, .slice Wd3 R.length ex3] (0, 0) _ bW_66 Try.underlying29 rfl (play_info _ _ _ _ _) ?_) | (refine wpList_load_row rfl 26 _ rfl w4.heap.size rfl 26 #[.slice (some ⟨g4, 0, none⟩) n0 n0] (0, 0) _ bx0_68 Try.underlying26 rfl (deal_info7 _) ?_) | (refine wpList_load_row rfl 29 _ rfl w6.heap.size rfl 29 #[.int .i64 sg1, .int .i64 lg1, .slice (some ⟨g6, 0, none⟩) n1 n1] (0, 0) _ bx1_70 Try.underlying29 rfl (play_info _ _ _ _ _) ?_) | (refine wpList_load_row rfl 29 _ rfl w8.heap.size rfl 29 #[.int .i64 SS, .int .i64 LL, .slice W8 R.length e8] (0, 0) _ x9 Try.underlying29 rfl (play_info _ _ _ _ _) ?_))
    refine (eqPlay SS LL _ _ R.length R.length _ _ R _ _ _ _ _ G_71.rd W_65.rd hRn).mono ?_
    rintro e w10 ⟨rfl, c10⟩
    have h0_73 := h0_61.still c10
    have h1_74 := h1_62.still c10
    have A0_75 := A0_63.still c10
    have A1_76 := A1_64.still c10
    have W_77 := W_65.still c10
    have bW_78 := bW_66.still c10
    have x0_79 := x0_67.still c10
    have bx0_80 := bx0_68.still c10
    have x1_81 := x1_69.still c10
    have bx1_82 := bx1_70.still c10
    have G_83 := G_71.still c10
    have bG_84 := x9.still c10
    have b85 := Chg.above b72 c10 (by omega) (by omega)
    have t85 : v9.heap.size ≤ w10.heap.size := c10.size
    clear h0_61 h1_62 A0_63 A1_64 W_65 bW_66 x0_67 bx0_68 x1_69 bx1_70 G_71 x9 b72 c10
    go_wp2_with (first | (refine wpList_load_row rfl 57 _ rfl w.heap.size rfl 57 #[.slice A0 n0 c0] (0, 0) _ A0_75 Try.underlying57 rfl (ldeal_info7 _) ?_) | (refine wpList_load_row rfl 52 _ rfl (w.heap.size + 1) rfl 52 #[.int .i64 sg1, .int .i64 lg1, .slice A1 n1 c1] (0, 0) _ A1_76 Try.underlying52 rfl (plinfo _ _ _ _ _) ?_) | (refine wpList_load_row rfl 29 _ rfl gx3 rfl 29 #[.int .i64 SS, .int .i64 LL, .slice Wd3 R.length ex3] (0, 0) _ bW_78 Try.underlying29 rfl (play_info _ _ _ _ _) ?_) | (refine wpList_load_row rfl 26 _ rfl w4.heap.size rfl 26 #[.slice (some ⟨g4, 0, none⟩) n0 n0] (0, 0) _ bx0_80 Try.underlying26 rfl (deal_info7 _) ?_) | (refine wpList_load_row rfl 29 _ rfl w6.heap.size rfl 29 #[.int .i64 sg1, .int .i64 lg1, .slice (some ⟨g6, 0, none⟩) n1 n1] (0, 0) _ bx1_82 Try.underlying29 rfl (play_info _ _ _ _ _) ?_) | (refine wpList_load_row rfl 29 _ rfl w8.heap.size rfl 29 #[.int .i64 SS, .int .i64 LL, .slice W8 R.length e8] (0, 0) _ bG_84 Try.underlying29 rfl (play_info _ _ _ _ _) ?_))
    have dr : Chg w10 w10.drew 0 0 := Chg.of_drew ⟨1, rfl⟩ _ _
    have s0 : (fun V => SBox V 26 w4.heap.size #[.slice (some ⟨g4, 0, none⟩) n0 n0] ∧ SBox V 57 w.heap.size #[.slice A0 n0 c0]) w10.drew := ⟨bx0_80.still dr, A0_75.still dr⟩
    refine wp_region_held_drew (S := fun V => SBox V 26 w4.heap.size #[.slice (some ⟨g4, 0, none⟩) n0 n0] ∧ SBox V 57 w.heap.size #[.slice A0 n0 c0]) (by kernel_rfl) s0 (fun hHeld => ?_)
    refine take_slotC (i := 0) (d := some 58) (v := .agg #[.slice (some ⟨g4, 0, none⟩) n0 n0]) rfl (by kernel_rfl) (by kernel_rfl) (by kernel_rfl) (by kernel_rfl) (fun _ _ _ h => h) (yieldsIf_load_mid (by kernel_rfl) 26 (.tmp 10) rfl w4.heap.size 0 rfl [.slice (some ⟨g4, 0, none⟩) n0 n0] _ (fun V hV => hV.1.range) Try.underlying26 rfl (deal_infoL _)) hHeld ?_
    try simp only [Act.put, List.setIfInBounds_toArray, List.set_cons_zero, List.set_cons_succ]
    refine take_slotC (i := 1) (d := some 59) (v := .agg #[.slice A0 n0 c0]) rfl (by kernel_rfl) (by kernel_rfl) (by kernel_rfl) (by kernel_rfl) (fun _ _ _ h => h) (yieldsIf_load_mid (by kernel_rfl) 57 (.tmp 3) rfl w.heap.size 0 rfl [.slice A0 n0 c0] _ (fun V hV => hV.2.range) Try.underlying57 rfl (ldeal_infoL _)) hHeld ?_
    try simp only [Act.put, List.setIfInBounds_toArray, List.set_cons_zero, List.set_cons_succ]
    refine wpAnyH_ready (rs := [2]) (by kernel_rfl) (by simp) (AllReadyH.cons (i := 2) rfl (fun K' hK' => ?_) AllReadyH.nil)
    go_simp
    refine (toDeal A0 n0 c0 zss0 _ _ _ (h0_73.still dr) hm0 hl0).mono ?_
    rintro e w11 ⟨g11, rfl, o11, p11⟩
    have c11 := dr.trans p11
    have hs11 : (fun V => SBox V 26 w4.heap.size #[.slice (some ⟨g4, 0, none⟩) n0 n0] ∧ SBox V 57 w.heap.size #[.slice A0 n0 c0]) w11 := ⟨hHeld.1.still p11, hHeld.2.still p11⟩
    clear p11 dr s0
    have h0_86 := h0_73.still c11
    have h1_87 := h1_74.still c11
    have A0_88 := A0_75.still c11
    have A1_89 := A1_76.still c11
    have W_90 := W_77.still c11
    have bW_91 := bW_78.still c11
    have x0_92 := x0_79.still c11
    have bx0_93 := bx0_80.still c11
    have x1_94 := x1_81.still c11
    have bx1_95 := bx1_82.still c11
    have G_96 := G_83.still c11
    have bG_97 := bG_84.still c11
    have b98 := Chg.above b85 c11 (by omega) (by omega)
    have t98 : w10.heap.size ≤ w11.heap.size := c11.size
    clear h0_73 h1_74 A0_75 A1_76 W_77 bW_78 x0_79 bx0_80 x1_81 bx1_82 G_83 bG_84 b85 c11
    refine hK'.out _ _ hs11 (fun hHeld => ?_)
    clear hK' hs11
    try simp only [Act.put, List.setIfInBounds_toArray, List.set_cons_zero, List.set_cons_succ]
    refine wpAnyH_ready (rs := [3]) (by kernel_rfl) (by simp) (AllReadyH.cons (i := 3) rfl (fun K' hK' => ?_) AllReadyH.nil)
    go_simp
    refine (eqDeal _ _ n0 n0 _ _ zss0 _ _ _ _ _ x0_92.rd o11.rd hm0 hl0).mono ?_
    rintro e w12 ⟨rfl, c12⟩
    have hs12 : (fun V => SBox V 26 w4.heap.size #[.slice (some ⟨g4, 0, none⟩) n0 n0] ∧ SBox V 57 w.heap.size #[.slice A0 n0 c0]) w12 := ⟨hHeld.1.still c12, hHeld.2.still c12⟩
    clear o11
    have h0_99 := h0_86.still c12
    have h1_100 := h1_87.still c12
    have A0_101 := A0_88.still c12
    have A1_102 := A1_89.still c12
    have W_103 := W_90.still c12
    have bW_104 := bW_91.still c12
    have x0_105 := x0_92.still c12
    have bx0_106 := bx0_93.still c12
    have x1_107 := x1_94.still c12
    have bx1_108 := bx1_95.still c12
    have G_109 := G_96.still c12
    have bG_110 := bG_97.still c12
    have b111 := Chg.above b98 c12 (by omega) (by omega)
    have t111 : w11.heap.size ≤ w12.heap.size := c12.size
    clear h0_86 h1_87 A0_88 A1_89 W_90 bW_91 x0_92 bx0_93 x1_94 bx1_95 G_96 bG_97 b98 c12
    refine hK'.out _ _ hs12 (fun hHeld => ?_)
    clear hK' hs12
    try simp only [Act.put, List.setIfInBounds_toArray, List.set_cons_zero, List.set_cons_succ]
    refine take_slotC (i := 4) (d := some 62) (v := .bool false) rfl (by kernel_rfl) (by kernel_rfl) (by kernel_rfl) (by kernel_rfl) (fun _ _ _ h => h) (.inl ⟨by kernel_rfl, fun V hV => by go_simp⟩) hHeld ?_
    try simp only [Act.put, List.setIfInBounds_toArray, List.set_cons_zero, List.set_cons_succ]
    refine wpAnyH_done (by kernel_rfl) ?_ _
    clear hHeld
    go_wp2_with (first | (refine wpList_load_row rfl 57 _ rfl w.heap.size rfl 57 #[.slice A0 n0 c0] (0, 0) _ A0_101 Try.underlying57 rfl (ldeal_info7 _) ?_) | (refine wpList_load_row rfl 52 _ rfl (w.heap.size + 1) rfl 52 #[.int .i64 sg1, .int .i64 lg1, .slice A1 n1 c1] (0, 0) _ A1_102 Try.underlying52 rfl (plinfo _ _ _ _ _) ?_) | (refine wpList_load_row rfl 29 _ rfl gx3 rfl 29 #[.int .i64 SS, .int .i64 LL, .slice Wd3 R.length ex3] (0, 0) _ bW_104 Try.underlying29 rfl (play_info _ _ _ _ _) ?_) | (refine wpList_load_row rfl 26 _ rfl w4.heap.size rfl 26 #[.slice (some ⟨g4, 0, none⟩) n0 n0] (0, 0) _ bx0_106 Try.underlying26 rfl (deal_info7 _) ?_) | (refine wpList_load_row rfl 29 _ rfl w6.heap.size rfl 29 #[.int .i64 sg1, .int .i64 lg1, .slice (some ⟨g6, 0, none⟩) n1 n1] (0, 0) _ bx1_108 Try.underlying29 rfl (play_info _ _ _ _ _) ?_) | (refine wpList_load_row rfl 29 _ rfl w8.heap.size rfl 29 #[.int .i64 SS, .int .i64 LL, .slice W8 R.length e8] (0, 0) _ bG_110 Try.underlying29 rfl (play_info _ _ _ _ _) ?_))
    have dr : Chg w12 w12.drew 0 0 := Chg.of_drew ⟨1, rfl⟩ _ _
    have s0 : (fun V => SBox V 29 w6.heap.size #[.int .i64 sg1, .int .i64 lg1, .slice (some ⟨g6, 0, none⟩) n1 n1] ∧ SBox V 52 (w.heap.size + 1) #[.int .i64 sg1, .int .i64 lg1, .slice A1 n1 c1]) w12.drew := ⟨bx1_108.still dr, A1_102.still dr⟩
    refine wp_region_held_drew (S := fun V => SBox V 29 w6.heap.size #[.int .i64 sg1, .int .i64 lg1, .slice (some ⟨g6, 0, none⟩) n1 n1] ∧ SBox V 52 (w.heap.size + 1) #[.int .i64 sg1, .int .i64 lg1, .slice A1 n1 c1]) (by kernel_rfl) s0 (fun hHeld => ?_)
    refine take_slotC (i := 0) (d := some 63) (v := .agg #[.int .i64 sg1, .int .i64 lg1, .slice (some ⟨g6, 0, none⟩) n1 n1]) rfl (by kernel_rfl) (by kernel_rfl) (by kernel_rfl) (by kernel_rfl) (fun _ _ _ h => h) (yieldsIf_load_mid (by kernel_rfl) 29 (.tmp 11) rfl w6.heap.size 0 rfl [.int .i64 sg1, .int .i64 lg1, .slice (some ⟨g6, 0, none⟩) n1 n1] _ (fun V hV => hV.1.range) Try.underlying29 rfl (play_infoL _ _ _)) hHeld ?_
    try simp only [Act.put, List.setIfInBounds_toArray, List.set_cons_zero, List.set_cons_succ]
    refine take_slotC (i := 1) (d := some 64) (v := .agg #[.int .i64 sg1, .int .i64 lg1, .slice A1 n1 c1]) rfl (by kernel_rfl) (by kernel_rfl) (by kernel_rfl) (by kernel_rfl) (fun _ _ _ h => h) (yieldsIf_load_mid (by kernel_rfl) 52 (.tmp 4) rfl (w.heap.size + 1) 0 rfl [.int .i64 sg1, .int .i64 lg1, .slice A1 n1 c1] _ (fun V hV => hV.2.range) Try.underlying52 rfl (plinfoL _ _ _)) hHeld ?_
    try simp only [Act.put, List.setIfInBounds_toArray, List.set_cons_zero, List.set_cons_succ]
    refine wpAnyH_ready (rs := [2]) (by kernel_rfl) (by simp) (AllReadyH.cons (i := 2) rfl (fun K' hK' => ?_) AllReadyH.nil)
    go_simp
    refine (toPlay sg1 lg1 A1 n1 c1 zs1 _ _ _ (h1_100.still dr) hm1).mono ?_
    rintro e w13 ⟨g13, rfl, o13, p13⟩
    have c13 := dr.trans p13
    have hs13 : (fun V => SBox V 29 w6.heap.size #[.int .i64 sg1, .int .i64 lg1, .slice (some ⟨g6, 0, none⟩) n1 n1] ∧ SBox V 52 (w.heap.size + 1) #[.int .i64 sg1, .int .i64 lg1, .slice A1 n1 c1]) w13 := ⟨hHeld.1.still p13, hHeld.2.still p13⟩
    clear p13 dr s0
    have h0_112 := h0_99.still c13
    have h1_113 := h1_100.still c13
    have A0_114 := A0_101.still c13
    have A1_115 := A1_102.still c13
    have W_116 := W_103.still c13
    have bW_117 := bW_104.still c13
    have x0_118 := x0_105.still c13
    have bx0_119 := bx0_106.still c13
    have x1_120 := x1_107.still c13
    have bx1_121 := bx1_108.still c13
    have G_122 := G_109.still c13
    have bG_123 := bG_110.still c13
    have b124 := Chg.above b111 c13 (by omega) (by omega)
    have t124 : w12.heap.size ≤ w13.heap.size := c13.size
    clear h0_99 h1_100 A0_101 A1_102 W_103 bW_104 x0_105 bx0_106 x1_107 bx1_108 G_109 bG_110 b111 c13
    refine hK'.out _ _ hs13 (fun hHeld => ?_)
    clear hK' hs13
    try simp only [Act.put, List.setIfInBounds_toArray, List.set_cons_zero, List.set_cons_succ]
    refine wpAnyH_ready (rs := [3]) (by kernel_rfl) (by simp) (AllReadyH.cons (i := 3) rfl (fun K' hK' => ?_) AllReadyH.nil)
    go_simp
    refine (eqPlay sg1 lg1 _ _ n1 n1 _ _ zs1 _ _ _ _ _ x1_120.rd o13.rd hm1).mono ?_
    rintro e w14 ⟨rfl, c14⟩
    have hs14 : (fun V => SBox V 29 w6.heap.size #[.int .i64 sg1, .int .i64 lg1, .slice (some ⟨g6, 0, none⟩) n1 n1] ∧ SBox V 52 (w.heap.size + 1) #[.int .i64 sg1, .int .i64 lg1, .slice A1 n1 c1]) w14 := ⟨hHeld.1.still c14, hHeld.2.still c14⟩
    clear o13
    have h0_125 := h0_112.still c14
    have h1_126 := h1_113.still c14
    have A0_127 := A0_114.still c14
    have A1_128 := A1_115.still c14
    have W_129 := W_116.still c14
    have bW_130 := bW_117.still c14
    have x0_131 := x0_118.still c14
    have bx0_132 := bx0_119.still c14
    have x1_133 := x1_120.still c14
    have bx1_134 := bx1_121.still c14
    have G_135 := G_122.still c14
    have bG_136 := bG_123.still c14
    have b137 := Chg.above b124 c14 (by omega) (by omega)
    have t137 : w13.heap.size ≤ w14.heap.size := c14.size
    clear h0_112 h1_113 A0_114 A1_115 W_116 bW_117 x0_118 bx0_119 x1_120 bx1_121 G_122 bG_123 b124 c14
    refine hK'.out _ _ hs14 (fun hHeld => ?_)
    clear hK' hs14
    try simp only [Act.put, List.setIfInBounds_toArray, List.set_cons_zero, List.set_cons_succ]
    refine take_slotC (i := 4) (d := some 67) (v := .bool false) rfl (by kernel_rfl) (by kernel_rfl) (by kernel_rfl) (by kernel_rfl) (fun _ _ _ h => h) (.inl ⟨by kernel_rfl, fun V hV => by go_simp⟩) hHeld ?_
    try simp only [Act.put, List.setIfInBounds_toArray, List.set_cons_zero, List.set_cons_succ]
    refine wpAnyH_done (by kernel_rfl) ?_ _
    clear hHeld
    go_wp2_with (first | (refine wpList_load_row rfl 57 _ rfl w.heap.size rfl 57 #[.slice A0 n0 c0] (0, 0) _ A0_127 Try.underlying57 rfl (ldeal_info7 _) ?_) | (refine wpList_load_row rfl 52 _ rfl (w.heap.size + 1) rfl 52 #[.int .i64 sg1, .int .i64 lg1, .slice A1 n1 c1] (0, 0) _ A1_128 Try.underlying52 rfl (plinfo _ _ _ _ _) ?_) | (refine wpList_load_row rfl 29 _ rfl gx3 rfl 29 #[.int .i64 SS, .int .i64 LL, .slice Wd3 R.length ex3] (0, 0) _ bW_130 Try.underlying29 rfl (play_info _ _ _ _ _) ?_) | (refine wpList_load_row rfl 26 _ rfl w4.heap.size rfl 26 #[.slice (some ⟨g4, 0, none⟩) n0 n0] (0, 0) _ bx0_132 Try.underlying26 rfl (deal_info7 _) ?_) | (refine wpList_load_row rfl 29 _ rfl w6.heap.size rfl 29 #[.int .i64 sg1, .int .i64 lg1, .slice (some ⟨g6, 0, none⟩) n1 n1] (0, 0) _ bx1_134 Try.underlying29 rfl (play_info _ _ _ _ _) ?_) | (refine wpList_load_row rfl 29 _ rfl w8.heap.size rfl 29 #[.int .i64 SS, .int .i64 LL, .slice W8 R.length e8] (0, 0) _ bG_136 Try.underlying29 rfl (play_info _ _ _ _ _) ?_))
    refine (markDeal18 _ n0 _ zss0 _ _ _ x0_131 hm0 hc0).mono ?_
    rintro e w15 ⟨rfl, _, c15⟩
    clear x0_131
    clear bx0_132
    have h0_138 := h0_125.chg c15 (by omega)
    have h1_139 := h1_126.chg c15 (by omega)
    have A0_140 := A0_127.chg c15 (by omega)
    have A1_141 := A1_128.chg c15 (by omega)
    have W_142 := W_129.chg c15 (by omega)
    have bW_143 := bW_130.chg c15 (by omega)
    have x1_144 := x1_133.chg c15 (by omega)
    have bx1_145 := bx1_134.chg c15 (by omega)
    have G_146 := G_135.chg c15 (by omega)
    have bG_147 := bG_136.chg c15 (by omega)
    have b148 := Chg.above b137 c15 (by omega) (by omega)
    have t148 : w14.heap.size ≤ w15.heap.size := c15.size
    clear h0_125 h1_126 A0_127 A1_128 W_129 bW_130 x1_133 bx1_134 G_135 bG_136 b137 c15
    go_wp2_with (first | (refine wpList_load_row rfl 57 _ rfl w.heap.size rfl 57 #[.slice A0 n0 c0] (0, 0) _ A0_140 Try.underlying57 rfl (ldeal_info7 _) ?_) | (refine wpList_load_row rfl 52 _ rfl (w.heap.size + 1) rfl 52 #[.int .i64 sg1, .int .i64 lg1, .slice A1 n1 c1] (0, 0) _ A1_141 Try.underlying52 rfl (plinfo _ _ _ _ _) ?_) | (refine wpList_load_row rfl 29 _ rfl gx3 rfl 29 #[.int .i64 SS, .int .i64 LL, .slice Wd3 R.length ex3] (0, 0) _ bW_143 Try.underlying29 rfl (play_info _ _ _ _ _) ?_) | (refine wpList_load_row rfl 29 _ rfl w6.heap.size rfl 29 #[.int .i64 sg1, .int .i64 lg1, .slice (some ⟨g6, 0, none⟩) n1 n1] (0, 0) _ bx1_145 Try.underlying29 rfl (play_info _ _ _ _ _) ?_) | (refine wpList_load_row rfl 29 _ rfl w8.heap.size rfl 29 #[.int .i64 SS, .int .i64 LL, .slice W8 R.length e8] (0, 0) _ bG_147 Try.underlying29 rfl (play_info _ _ _ _ _) ?_))
    refine (markPlayI sg1 lg1 _ n1 n1 zs1 _ _ (1 + (cnt zss0 n0 : Int)) _ x1_144 hm1 (by omega) (by omega)).mono ?_
    rintro e w16 ⟨rfl, _, c16⟩
    clear x1_144
    clear bx1_145
    have h0_149 := h0_138.chg c16 (by omega)
    have h1_150 := h1_139.chg c16 (by omega)
    have A0_151 := A0_140.chg c16 (by omega)
    have A1_152 := A1_141.chg c16 (by omega)
    have W_153 := W_142.chg c16 (by omega)
    have bW_154 := bW_143.chg c16 (by omega)
    have G_155 := G_146.chg c16 (by omega)
    have bG_156 := bG_147.chg c16 (by omega)
    have b157 := Chg.above b148 c16 (by omega) (by omega)
    have t157 : w15.heap.size ≤ w16.heap.size := c16.size
    clear h0_138 h1_139 A0_140 A1_141 W_142 bW_143 G_146 bG_147 b148 c16
    have y158 : w16.cell? ⟨w8.heap.size, 0, none⟩ = some (.int .i64 SS) := by rw [bG_156.cell]; rfl
    have y159 : w16.cell? ⟨w8.heap.size, 1, none⟩ = some (.int .i64 LL) := by rw [bG_156.cell]; rfl
    have y160 : w16.cell? ⟨w8.heap.size, 2, none⟩ = some (.slice W8 R.length e8) := by rw [bG_156.cell]; rfl
    have y161 : w16.cell? ⟨gx3, 0, none⟩ = some (.int .i64 SS) := by rw [bW_154.cell]; rfl
    have y162 : w16.cell? ⟨gx3, 1, none⟩ = some (.int .i64 LL) := by rw [bW_154.cell]; rfl
    have y163 : w16.cell? ⟨gx3, 2, none⟩ = some (.slice Wd3 R.length ex3) := by rw [bW_154.cell]; rfl
    go_wp2_with (first | (refine wpList_load_row rfl 57 _ rfl w.heap.size rfl 57 #[.slice A0 n0 c0] (0, 0) _ A0_151 Try.underlying57 rfl (ldeal_info7 _) ?_) | (refine wpList_load_row rfl 52 _ rfl (w.heap.size + 1) rfl 52 #[.int .i64 sg1, .int .i64 lg1, .slice A1 n1 c1] (0, 0) _ A1_152 Try.underlying52 rfl (plinfo _ _ _ _ _) ?_) | (refine wpList_load_row rfl 29 _ rfl gx3 rfl 29 #[.int .i64 SS, .int .i64 LL, .slice Wd3 R.length ex3] (0, 0) _ bW_154 Try.underlying29 rfl (play_info _ _ _ _ _) ?_) | (refine wpList_load_row rfl 29 _ rfl w8.heap.size rfl 29 #[.int .i64 SS, .int .i64 LL, .slice W8 R.length e8] (0, 0) _ bG_156 Try.underlying29 rfl (play_info _ _ _ _ _) ?_))
    clear y158 y159 y160 y161 y162 y163
    refine (eqPlay SS LL _ _ R.length R.length _ _ R _ _ _ _ _ G_155.rd W_153.rd hRn).mono ?_
    rintro e w17 ⟨rfl, c17⟩
    have h0_164 := h0_149.still c17
    have h1_165 := h1_150.still c17
    have A0_166 := A0_151.still c17
    have A1_167 := A1_152.still c17
    have W_168 := W_153.still c17
    have bW_169 := bW_154.still c17
    have G_170 := G_155.still c17
    have bG_171 := bG_156.still c17
    have b172 := Chg.above b157 c17 (by omega) (by omega)
    have t172 : w16.heap.size ≤ w17.heap.size := c17.size
    clear h0_149 h1_150 A0_151 A1_152 W_153 bW_154 G_155 bG_156 b157 c17
    go_wp2_with (first | (refine wpList_load_row rfl 57 _ rfl w.heap.size rfl 57 #[.slice A0 n0 c0] (0, 0) _ A0_166 Try.underlying57 rfl (ldeal_info7 _) ?_) | (refine wpList_load_row rfl 52 _ rfl (w.heap.size + 1) rfl 52 #[.int .i64 sg1, .int .i64 lg1, .slice A1 n1 c1] (0, 0) _ A1_167 Try.underlying52 rfl (plinfo _ _ _ _ _) ?_) | (refine wpList_load_row rfl 29 _ rfl gx3 rfl 29 #[.int .i64 SS, .int .i64 LL, .slice Wd3 R.length ex3] (0, 0) _ bW_169 Try.underlying29 rfl (play_info _ _ _ _ _) ?_) | (refine wpList_load_row rfl 29 _ rfl w8.heap.size rfl 29 #[.int .i64 SS, .int .i64 LL, .slice W8 R.length e8] (0, 0) _ bG_171 Try.underlying29 rfl (play_info _ _ _ _ _) ?_))
    refine (markPlay1 SS LL _ R.length _ R _ _ _ G_170 hRn).mono ?_
    rintro e w18 ⟨rfl, m18, c18⟩
    clear G_170
    have h0_173 := h0_164.chg c18 (by omega)
    have h1_174 := h1_165.chg c18 (by omega)
    have A0_175 := A0_166.chg c18 (by omega)
    have A1_176 := A1_167.chg c18 (by omega)
    have W_177 := W_168.chg c18 (by omega)
    have bW_178 := bW_169.chg c18 (by omega)
    have bG_179 := bG_171.chg c18 (by omega)
    have b180 := Chg.above b172 c18 (by omega) (by omega)
    have t180 : w17.heap.size ≤ w18.heap.size := c18.size
    clear h0_164 h1_165 A0_166 A1_167 W_168 bW_169 bG_171 b172 c18
    go_wp2_with (first | (refine wpList_load_row rfl 57 _ rfl w.heap.size rfl 57 #[.slice A0 n0 c0] (0, 0) _ A0_175 Try.underlying57 rfl (ldeal_info7 _) ?_) | (refine wpList_load_row rfl 52 _ rfl (w.heap.size + 1) rfl 52 #[.int .i64 sg1, .int .i64 lg1, .slice A1 n1 c1] (0, 0) _ A1_176 Try.underlying52 rfl (plinfo _ _ _ _ _) ?_) | (refine wpList_load_row rfl 29 _ rfl gx3 rfl 29 #[.int .i64 SS, .int .i64 LL, .slice Wd3 R.length ex3] (0, 0) _ bW_178 Try.underlying29 rfl (play_info _ _ _ _ _) ?_) | (refine wpList_load_row rfl 29 _ rfl w8.heap.size rfl 29 #[.int .i64 SS, .int .i64 LL, .slice W8 R.length e8] (0, 0) _ bG_179 Try.underlying29 rfl (play_info _ _ _ _ _) ?_))
    refine (heldPlay1 SS LL _ R.length _ _ _ _ m18.rd hRn).mono ?_
    rintro e w19 ⟨rfl, c19⟩
    have h0_181 := h0_173.still c19
    have h1_182 := h1_174.still c19
    have A0_183 := A0_175.still c19
    have A1_184 := A1_176.still c19
    have W_185 := W_177.still c19
    have bW_186 := bW_178.still c19
    have bG_187 := bG_179.still c19
    have M_188 := m18.still c19
    have b189 := Chg.above b180 c19 (by omega) (by omega)
    have t189 : w18.heap.size ≤ w19.heap.size := c19.size
    clear h0_173 h1_174 A0_175 A1_176 W_177 bW_178 bG_179 m18 b180 c19
    go_upto_region 31 with (first | (refine wpList_load_row rfl 57 _ rfl w.heap.size rfl 57 #[.slice A0 n0 c0] (0, 0) _ A0_183 Try.underlying57 rfl (ldeal_info7 _) ?_) | (refine wpList_load_row rfl 52 _ rfl (w.heap.size + 1) rfl 52 #[.int .i64 sg1, .int .i64 lg1, .slice A1 n1 c1] (0, 0) _ A1_184 Try.underlying52 rfl (plinfo _ _ _ _ _) ?_) | (refine wpList_load_row rfl 29 _ rfl gx3 rfl 29 #[.int .i64 SS, .int .i64 LL, .slice Wd3 R.length ex3] (0, 0) _ bW_186 Try.underlying29 rfl (play_info _ _ _ _ _) ?_) | (refine wpList_load_row rfl 29 _ rfl w8.heap.size rfl 29 #[.int .i64 SS, .int .i64 LL, .slice W8 R.length e8] (0, 0) _ bG_187 Try.underlying29 rfl (play_info _ _ _ _ _) ?_))
    go_cut [17, 18] from 98 to 106 (fun vp vk wx => ∃ (gx : Nat) (Wd : Option Addr) (ex : Nat), vp = .pointer (some ⟨gx, 0, none⟩) ∧ vk = .int .i64 K ∧ Hid (SBox wx 29 gx #[.int .i64 SS, .int .i64 LL, .slice Wd R.length ex]) ∧ Hid (Own wx w19.heap.size wx.heap.size Wd R.length R) ∧ Hid (Chg w19 wx 0 0) ∧ Hid (w19.heap.size ≤ gx ∧ gx < wx.heap.size))
    case first =>
      have cc : Hid (Chg w19 w19.drew 0 0) := Chg.of_drew ⟨1, rfl⟩ 0 0
      have hS := Lib.hid (fun (V : World) (c : Chg w19 V 0 0) => (show (fun V => SBox V 57 w.heap.size #[.slice A0 n0 c0] ∧ SBox V 52 (w.heap.size + 1) #[.int .i64 sg1, .int .i64 lg1, .slice A1 n1 c1]) V from ⟨A0_183.still c, A1_184.still c⟩))
      have hz := Lib.hid (Nat.le_refl w19.heap.size)
      have hzd := cc.out.size
      refine wp_region_held_drew (S := fun V => SBox V 57 w.heap.size #[.slice A0 n0 c0] ∧ SBox V 52 (w.heap.size + 1) #[.int .i64 sg1, .int .i64 lg1, .slice A1 n1 c1]) (by kernel_rfl) (hS.out _ cc.out) (fun hHeld => ?_)
      refine take_slotC (i := 0) (d := some 99) (v := .agg #[.slice A0 n0 c0]) rfl (by kernel_rfl) (by kernel_rfl) (by kernel_rfl) (by kernel_rfl) (fun _ _ _ h => h) (yieldsIf_load_mid (by kernel_rfl) 57 (.tmp 3) rfl w.heap.size 0 rfl [.slice A0 n0 c0] _ (fun V hV => hV.1.range) Try.underlying57 rfl (ldeal_infoL _)) hHeld ?_
      try simp only [Act.put, List.setIfInBounds_toArray, List.set_cons_zero, List.set_cons_succ]
      refine take_slotC (i := 2) (d := some 101) (v := .agg #[.int .i64 sg1, .int .i64 lg1, .slice A1 n1 c1]) rfl (by kernel_rfl) (by kernel_rfl) (by kernel_rfl) (by kernel_rfl) (fun _ _ _ h => h) (yieldsIf_load_mid (by kernel_rfl) 52 (.tmp 4) rfl (w.heap.size + 1) 0 rfl [.int .i64 sg1, .int .i64 lg1, .slice A1 n1 c1] _ (fun V hV => hV.2.range) Try.underlying52 rfl (plinfoL _ _ _)) hHeld ?_
      try simp only [Act.put, List.setIfInBounds_toArray, List.set_cons_zero, List.set_cons_succ]
      refine take_slotC (i := 4) (d := some 103) (v := .int .i64 a2) rfl (by kernel_rfl) (by kernel_rfl) (by kernel_rfl) (by kernel_rfl) (fun _ _ _ h => h) (.inl ⟨by kernel_rfl, fun V hV => by go_simp⟩) hHeld ?_
      try simp only [Act.put, List.setIfInBounds_toArray, List.set_cons_zero, List.set_cons_succ]
      generalize w19.drew = V0 at cc hzd hHeld ⊢
      refine wpAnyH_ready (rs := [1, 9]) (by kernel_rfl) (by simp) (AllReadyH.cons (i := 1) rfl (fun K' hK' => ?c20_1) (AllReadyH.cons (i := 9) rfl (fun K' hK' => ?c20_9) AllReadyH.nil))
      case' c20_1 =>
        go_simp
        refine (toDeal A0 n0 c0 zss0 _ _ _ ((h0_181).still cc.out) hm0 hl0).mono ?_
        rintro e V1 ⟨g1, rfl, o1, st⟩
        have O0 := Lib.hid o1
        clear o1
        have sz1 : V0.heap.size ≤ V1.heap.size := st.size
        have cc := Lib.hid (cc.out.trans st)
        refine hK'.out _ _ (hS.out _ cc.out) (fun hHeld => ?_)
        clear hK' st
        try simp only [Act.put, List.setIfInBounds_toArray, List.set_cons_zero, List.set_cons_succ]
        refine wpAnyH_ready (rs := [3, 9]) (by kernel_rfl) (by simp) (AllReadyH.cons (i := 3) rfl (fun K' hK' => ?c201_3) (AllReadyH.cons (i := 9) rfl (fun K' hK' => ?c201_9) AllReadyH.nil))
        case' c201_3 =>
          go_simp
          refine (toPlay sg1 lg1 A1 n1 c1 zs1 _ _ _ ((h1_182).still cc.out) hm1).mono ?_
          rintro e V2 ⟨g3, rfl, o3, st⟩
          have O1 := Lib.hid o3
          clear o3
          have sz2 : V1.heap.size ≤ V2.heap.size := st.size
          have O0 := Lib.hid (O0.out.still st)
          have cc := Lib.hid (cc.out.trans st)
          refine hK'.out _ _ (hS.out _ cc.out) (fun hHeld => ?_)
          clear hK' st
          try simp only [Act.put, List.setIfInBounds_toArray, List.set_cons_zero, List.set_cons_succ]
          refine wpAnyH_ready (rs := [5, 9]) (by kernel_rfl) (by simp) (AllReadyH.cons (i := 5) rfl (fun K' hK' => ?c201_3_5) (AllReadyH.cons (i := 9) rfl (fun K' hK' => ?c201_3_9) AllReadyH.nil))
          case' c201_3_5 =>
            go_simp
            refine (impl_AddCard _ n0 n0 zss0 sg1 lg1 _ n1 n1 zs1 a2 _ (O0.out.rd.more (Nat.zero_le _) (by omega)) hl0 (O1.out.rd.more (Nat.zero_le _) (by omega)) hm1 (Nat.le_refl _) (fun e => by cases e)).mono ?_
            rw [HRR.out, ← HS.out, ← HL.out, ← HK.out]
            first | unfold RetPI | unfold RetPJ
            rintro e V3 ⟨u, rfl, qq, rr⟩
            obtain ⟨Wd, ex, rfl, _, _, jj⟩ := qq.form
            have st := Chg.of_below rr 0 0
            have OW := Lib.hid jj
            clear qq rr jj
            have sz3 : V2.heap.size ≤ V3.heap.size := st.size
            have O0 := Lib.hid (O0.out.still st)
            have O1 := Lib.hid (O1.out.still st)
            have cc := Lib.hid (cc.out.trans st)
            refine hK'.out _ _ (hS.out _ cc.out) (fun hHeld => ?_)
            clear hK' st
            try simp only [Act.put, List.setIfInBounds_toArray, List.set_cons_zero, List.set_cons_succ]
            refine take_slotC (i := 6) (d := some 98) (v := .tuple #[.agg #[.int .i64 SS, .int .i64 LL, .slice Wd R.length ex], .int .i64 K]) rfl (by kernel_rfl) (by kernel_rfl) (by kernel_rfl) (by kernel_rfl) (fun _ _ _ h => h) (.inl ⟨by kernel_rfl, fun V hV => by go_simp⟩) hHeld ?_
            try simp only [Act.put, List.setIfInBounds_toArray, List.set_cons_zero, List.set_cons_succ]
            refine take_slotC (i := 7) (d := some 105) (v := .agg #[.int .i64 SS, .int .i64 LL, .slice Wd R.length ex]) rfl (by kernel_rfl) (by kernel_rfl) (by kernel_rfl) (by kernel_rfl) (fun _ _ _ h => h) (.inl ⟨by kernel_rfl, fun V hV => by go_simp⟩) hHeld ?_
            try simp only [Act.put, List.setIfInBounds_toArray, List.set_cons_zero, List.set_cons_succ]
            refine take_slotC (i := 8) (d := some 106) (v := .int .i64 K) rfl (by kernel_rfl) (by kernel_rfl) (by kernel_rfl) (by kernel_rfl) (fun _ _ _ h => h) (.inl ⟨by kernel_rfl, fun V hV => by go_simp⟩) hHeld ?_
            try simp only [Act.put, List.setIfInBounds_toArray, List.set_cons_zero, List.set_cons_succ]
            refine wpAnyH_ready (rs := [9]) (by kernel_rfl) (by simp) (AllReadyH.cons (i := 9) rfl (fun K' hK' => ?c201_3_5_9) AllReadyH.nil)
            case' c201_3_5_9 =>
              go_simp
              have st := Chg.of_alloc V3 (.cells #[.int .i64 0, .int .i64 0, .slice none 0 0] 29) 0 0
              have XB := Lib.hid (SBox.new V3 29 #[.int .i64 0, .int .i64 0, .slice none 0 0])
              obtain ⟨gx, hgx⟩ : ∃ gx, gx = V3.heap.size := ⟨_, rfl⟩
              rw [← hgx] at XB
              have zg : V3.heap.size = gx := hgx.symm
              have sz4 : V3.heap.size ≤ (V3.alloc (.cells #[.int .i64 0, .int .i64 0, .slice none 0 0] 29)).heap.size := st.size
              have O0 := Lib.hid (O0.out.still st)
              have O1 := Lib.hid (O1.out.still st)
              have OW := Lib.hid (OW.out.still st)
              have cc := Lib.hid (cc.out.trans st)
              refine hK'.out _ _ (hS.out _ cc.out) (fun hHeld => ?_)
              clear hK' st
              rw [← hgx]
              have zh := XB.out.lt
              generalize (V3.alloc (.cells #[.int .i64 0, .int .i64 0, .slice none 0 0] 29)) = V4 at cc XB O0 O1 OW sz4 zh hHeld ⊢
              clear hgx
              try simp only [Act.put, List.setIfInBounds_toArray, List.set_cons_zero, List.set_cons_succ]
              have rc : Chg V4 (V4.setRow gx #[.int .i64 SS, .int .i64 LL, .slice Wd R.length ex]) gx (gx + 1) := ⟨rfl, rfl, rfl, by rw [setRow_size]; exact Nat.le_refl _, fun k _ ho => setRow_other _ gx k _ (by omega)⟩
              have cz := cc.out.rowC (show w19.heap.size ≤ gx by omega) #[.int .i64 SS, .int .i64 LL, .slice Wd R.length ex]
              have XS := setRow_heap V4 gx _ #[.int .i64 SS, .int .i64 LL, .slice Wd R.length ex] _ _ XB.out
              have OS := (OW.out.chg rc (by omega)).more (lo' := w19.heap.size) (hi' := (V4.setRow gx #[.int .i64 SS, .int .i64 LL, .slice Wd R.length ex]).heap.size) (by omega) (by rw [setRow_size]; omega)
              have zf : w19.heap.size ≤ gx ∧ gx < (V4.setRow gx #[.int .i64 SS, .int .i64 LL, .slice Wd R.length ex]).heap.size := by rw [setRow_size]; exact ⟨by omega, XB.out.lt⟩
              refine wpAnyH_ready (rs := [10]) (by kernel_rfl) (by simp) (AllReadyH.cons (i := 10) rfl (fun K' hK' => ?_) AllReadyH.nil)
              refine step_of_wp7 rfl (wp_store_row 29 _ _ rfl gx #[.int .i64 SS, .int .i64 LL, .slice Wd R.length ex] rfl rfl 29 #[.int .i64 0, .int .i64 0, .slice none 0 0] XB.out (play_info _ _ _ _ _) rfl (play_cells _ _ _ _ _) ?_)
              refine hK'.out _ _ (hS.out _ cz) (fun hHeld => ?_)
              clear hK'
              try simp only [Act.put, List.setIfInBounds_toArray]
              refine take_slotC (i := 11) (d := some 18) (v := .int .i64 K) rfl (by kernel_rfl) (by kernel_rfl) (by kernel_rfl) (by kernel_rfl) (fun _ _ _ h => h) (.inl ⟨by kernel_rfl, fun V hV => by go_simp⟩) hHeld ?_
              try simp only [Act.put]
              refine wpAnyH_done (by kernel_rfl) ?_ _
              go_wp2_with fail
              go_meet
              exact ⟨gx, Wd, ex, rfl, rfl, XS, OS, cz, zf⟩
          case' c201_3_9 =>
            go_simp
            have st := Chg.of_alloc V2 (.cells #[.int .i64 0, .int .i64 0, .slice none 0 0] 29) 0 0
            have XB := Lib.hid (SBox.new V2 29 #[.int .i64 0, .int .i64 0, .slice none 0 0])
            obtain ⟨gx, hgx⟩ : ∃ gx, gx = V2.heap.size := ⟨_, rfl⟩
            rw [← hgx] at XB
            have zg : V2.heap.size = gx := hgx.symm
            have sz3 : V2.heap.size ≤ (V2.alloc (.cells #[.int .i64 0, .int .i64 0, .slice none 0 0] 29)).heap.size := st.size
            have O0 := Lib.hid (O0.out.still st)
            have O1 := Lib.hid (O1.out.still st)
            have cc := Lib.hid (cc.out.trans st)
            refine hK'.out _ _ (hS.out _ cc.out) (fun hHeld => ?_)
            clear hK' st
            rw [← hgx]
            have zh := XB.out.lt
            generalize (V2.alloc (.cells #[.int .i64 0, .int .i64 0, .slice none 0 0] 29)) = V3 at cc XB O0 O1 sz3 zh hHeld ⊢
            clear hgx
            try simp only [Act.put, List.setIfInBounds_toArray, List.set_cons_zero, List.set_cons_succ]
            refine wpAnyH_ready (rs := [5]) (by kernel_rfl) (by simp) (AllReadyH.cons (i := 5) rfl (fun K' hK' => ?c201_3_9_5) AllReadyH.nil)
            case' c201_3_9_5 =>
              go_simp
              refine (impl_AddCard _ n0 n0 zss0 sg1 lg1 _ n1 n1 zs1 a2 _ (O0.out.rd.more (Nat.zero_le _) (by omega)) hl0 (O1.out.rd.more (Nat.zero_le _) (by omega)) hm1 (Nat.le_refl _) (fun e => by cases e)).mono ?_
              rw [HRR.out, ← HS.out, ← HL.out, ← HK.out]
              first | unfold RetPI | unfold RetPJ
              rintro e V4 ⟨u, rfl, qq, rr⟩
              obtain ⟨Wd, ex, rfl, _, _, jj⟩ := qq.form
              have st := Chg.of_below rr 0 0
              have OW := Lib.hid jj
              clear qq rr jj
              have sz4 : V3.heap.size ≤ V4.heap.size := st.size
              have O0 := Lib.hid (O0.out.still st)
              have O1 := Lib.hid (O1.out.still st)
              have XB := Lib.hid (XB.out.still st)
              have cc := Lib.hid (cc.out.trans st)
              refine hK'.out _ _ (hS.out _ cc.out) (fun hHeld => ?_)
              clear hK' st
              try simp only [Act.put, List.setIfInBounds_toArray, List.set_cons_zero, List.set_cons_succ]
              refine take_slotC (i := 6) (d := some 98) (v := .tuple #[.agg #[.int .i64 SS, .int .i64 LL, .slice Wd R.length ex], .int .i64 K]) rfl (by kernel_rfl) (by kernel_rfl) (by kernel_rfl) (by kernel_rfl) (fun _ _ _ h => h) (.inl ⟨by kernel_rfl, fun V hV => by go_simp⟩) hHeld ?_
              try simp only [Act.put, List.setIfInBounds_toArray, List.set_cons_zero, List.set_cons_succ]
              refine take_slotC (i := 7) (d := some 105) (v := .agg #[.int .i64 SS, .int .i64 LL, .slice Wd R.length ex]) rfl (by kernel_rfl) (by kernel_rfl) (by kernel_rfl) (by kernel_rfl) (fun _ _ _ h => h) (.inl ⟨by kernel_rfl, fun V hV => by go_simp⟩) hHeld ?_
              try simp only [Act.put, List.setIfInBounds_toArray, List.set_cons_zero, List.set_cons_succ]
              refine take_slotC (i := 8) (d := some 106) (v := .int .i64 K) rfl (by kernel_rfl) (by kernel_rfl) (by kernel_rfl) (by kernel_rfl) (fun _ _ _ h => h) (.inl ⟨by kernel_rfl, fun V hV => by go_simp⟩) hHeld ?_
              try simp only [Act.put, List.setIfInBounds_toArray, List.set_cons_zero, List.set_cons_succ]
              have rc : Chg V4 (V4.setRow gx #[.int .i64 SS, .int .i64 LL, .slice Wd R.length ex]) gx (gx + 1) := ⟨rfl, rfl, rfl, by rw [setRow_size]; exact Nat.le_refl _, fun k _ ho => setRow_other _ gx k _ (by omega)⟩
              have cz := cc.out.rowC (show w19.heap.size ≤ gx by omega) #[.int .i64 SS, .int .i64 LL, .slice Wd R.length ex]
              have XS := setRow_heap V4 gx _ #[.int .i64 SS, .int .i64 LL, .slice Wd R.length ex] _ _ XB.out
              have OS := (OW.out.chg rc (by omega)).more (lo' := w19.heap.size) (hi' := (V4.setRow gx #[.int .i64 SS, .int .i64 LL, .slice Wd R.length ex]).heap.size) (by omega) (by rw [setRow_size]; omega)
              have zf : w19.heap.size ≤ gx ∧ gx < (V4.setRow gx #[.int .i64 SS, .int .i64 LL, .slice Wd R.length ex]).heap.size := by rw [setRow_size]; exact ⟨by omega, XB.out.lt⟩
              refine wpAnyH_ready (rs := [10]) (by kernel_rfl) (by simp) (AllReadyH.cons (i := 10) rfl (fun K' hK' => ?_) AllReadyH.nil)
              refine step_of_wp7 rfl (wp_store_row 29 _ _ rfl gx #[.int .i64 SS, .int .i64 LL, .slice Wd R.length ex] rfl rfl 29 #[.int .i64 0, .int .i64 0, .slice none 0 0] XB.out (play_info _ _ _ _ _) rfl (play_cells _ _ _ _ _) ?_)
              refine hK'.out _ _ (hS.out _ cz) (fun hHeld => ?_)
              clear hK'
              try simp only [Act.put, List.setIfInBounds_toArray]
              refine take_slotC (i := 11) (d := some 18) (v := .int .i64 K) rfl (by kernel_rfl) (by kernel_rfl) (by kernel_rfl) (by kernel_rfl) (fun _ _ _ h => h) (.inl ⟨by kernel_rfl, fun V hV => by go_simp⟩) hHeld ?_
              try simp only [Act.put]
              refine wpAnyH_done (by kernel_rfl) ?_ _
              go_wp2_with fail
              go_meet
              exact ⟨gx, Wd, ex, rfl, rfl, XS, OS, cz, zf⟩
        case' c201_9 =>
          go_simp
          have st := Chg.of_alloc V1 (.cells #[.int .i64 0, .int .i64 0, .slice none 0 0] 29) 0 0
          have XB := Lib.hid (SBox.new V1 29 #[.int .i64 0, .int .i64 0, .slice none 0 0])
          obtain ⟨gx, hgx⟩ : ∃ gx, gx = V1.heap.size := ⟨_, rfl⟩
          rw [← hgx] at XB
          have zg : V1.heap.size = gx := hgx.symm
          have sz2 : V1.heap.size ≤ (V1.alloc (.cells #[.int .i64 0, .int .i64 0, .slice none 0 0] 29)).heap.size := st.size
          have O0 := Lib.hid (O0.out.still st)
          have cc := Lib.hid (cc.out.trans st)
          refine hK'.out _ _ (hS.out _ cc.out) (fun hHeld => ?_)
          clear hK' st
          rw [← hgx]
          have zh := XB.out.lt
          generalize (V1.alloc (.cells #[.int .i64 0, .int .i64 0, .slice none 0 0] 29)) = V2 at cc XB O0 sz2 zh hHeld ⊢
          clear hgx
          try simp only [Act.put, List.setIfInBounds_toArray, List.set_cons_zero, List.set_cons_succ]
          refine wpAnyH_ready (rs := [3]) (by kernel_rfl) (by simp) (AllReadyH.cons (i := 3) rfl (fun K' hK' => ?c201_9_3) AllReadyH.nil)
          case' c201_9_3 =>
            go_simp
            refine (toPlay sg1 lg1 A1 n1 c1 zs1 _ _ _ ((h1_182).still cc.out) hm1).mono ?_
            rintro e V3 ⟨g3, rfl, o3, st⟩
            have O1 := Lib.hid o3
            clear o3
            have sz3 : V2.heap.size ≤ V3.heap.size := st.size
            have O0 := Lib.hid (O0.out.still st)
            have XB := Lib.hid (XB.out.still st)
            have cc := Lib.hid (cc.out.trans st)
            refine hK'.out _ _ (hS.out _ cc.out) (fun hHeld => ?_)
            clear hK' st
            try simp only [Act.put, List.setIfInBounds_toArray, List.set_cons_zero, List.set_cons_succ]
            refine wpAnyH_ready (rs := [5]) (by kernel_rfl) (by simp) (AllReadyH.cons (i := 5) rfl (fun K' hK' => ?c201_9_3_5) AllReadyH.nil)
            case' c201_9_3_5 =>
              go_simp
              refine (impl_AddCard _ n0 n0 zss0 sg1 lg1 _ n1 n1 zs1 a2 _ (O0.out.rd.more (Nat.zero_le _) (by omega)) hl0 (O1.out.rd.more (Nat.zero_le _) (by omega)) hm1 (Nat.le_refl _) (fun e => by cases e)).mono ?_
              rw [HRR.out, ← HS.out, ← HL.out, ← HK.out]
              first | unfold RetPI | unfold RetPJ
              rintro e V4 ⟨u, rfl, qq, rr⟩
              obtain ⟨Wd, ex, rfl, _, _, jj⟩ := qq.form
              have st := Chg.of_below rr 0 0
              have OW := Lib.hid jj
              clear qq rr jj
              have sz4 : V3.heap.size ≤ V4.heap.size := st.size
              have O0 := Lib.hid (O0.out.still st)
              have O1 := Lib.hid (O1.out.still st)
              have XB := Lib.hid (XB.out.still st)
              have cc := Lib.hid (cc.out.trans st)
              refine hK'.out _ _ (hS.out _ cc.out) (fun hHeld => ?_)
              clear hK' st
              try simp only [Act.put, List.setIfInBounds_toArray, List.set_cons_zero, List.set_cons_succ]
              refine take_slotC (i := 6) (d := some 98) (v := .tuple #[.agg #[.int .i64 SS, .int .i64 LL, .slice Wd R.length ex], .int .i64 K]) rfl (by kernel_rfl) (by kernel_rfl) (by kernel_rfl) (by kernel_rfl) (fun _ _ _ h => h) (.inl ⟨by kernel_rfl, fun V hV => by go_simp⟩) hHeld ?_
              try simp only [Act.put, List.setIfInBounds_toArray, List.set_cons_zero, List.set_cons_succ]
              refine take_slotC (i := 7) (d := some 105) (v := .agg #[.int .i64 SS, .int .i64 LL, .slice Wd R.length ex]) rfl (by kernel_rfl) (by kernel_rfl) (by kernel_rfl) (by kernel_rfl) (fun _ _ _ h => h) (.inl ⟨by kernel_rfl, fun V hV => by go_simp⟩) hHeld ?_
              try simp only [Act.put, List.setIfInBounds_toArray, List.set_cons_zero, List.set_cons_succ]
              refine take_slotC (i := 8) (d := some 106) (v := .int .i64 K) rfl (by kernel_rfl) (by kernel_rfl) (by kernel_rfl) (by kernel_rfl) (fun _ _ _ h => h) (.inl ⟨by kernel_rfl, fun V hV => by go_simp⟩) hHeld ?_
              try simp only [Act.put, List.setIfInBounds_toArray, List.set_cons_zero, List.set_cons_succ]
              have rc : Chg V4 (V4.setRow gx #[.int .i64 SS, .int .i64 LL, .slice Wd R.length ex]) gx (gx + 1) := ⟨rfl, rfl, rfl, by rw [setRow_size]; exact Nat.le_refl _, fun k _ ho => setRow_other _ gx k _ (by omega)⟩
              have cz := cc.out.rowC (show w19.heap.size ≤ gx by omega) #[.int .i64 SS, .int .i64 LL, .slice Wd R.length ex]
              have XS := setRow_heap V4 gx _ #[.int .i64 SS, .int .i64 LL, .slice Wd R.length ex] _ _ XB.out
              have OS := (OW.out.chg rc (by omega)).more (lo' := w19.heap.size) (hi' := (V4.setRow gx #[.int .i64 SS, .int .i64 LL, .slice Wd R.length ex]).heap.size) (by omega) (by rw [setRow_size]; omega)
              have zf : w19.heap.size ≤ gx ∧ gx < (V4.setRow gx #[.int .i64 SS, .int .i64 LL, .slice Wd R.length ex]).heap.size := by rw [setRow_size]; exact ⟨by omega, XB.out.lt⟩
              refine wpAnyH_ready (rs := [10]) (by kernel_rfl) (by simp) (AllReadyH.cons (i := 10) rfl (fun K' hK' => ?_) AllReadyH.nil)
              refine step_of_wp7 rfl (wp_store_row 29 _ _ rfl gx #[.int .i64 SS, .int .i64 LL, .slice Wd R.length ex] rfl rfl 29 #[.int .i64 0, .int .i64 0, .slice none 0 0] XB.out (play_info _ _ _ _ _) rfl (play_cells _ _ _ _ _) ?_)
              refine hK'.out _ _ (hS.out _ cz) (fun hHeld => ?_)
              clear hK'
              try simp only [Act.put, List.setIfInBounds_toArray]
              refine take_slotC (i := 11) (d := some 18) (v := .int .i64 K) rfl (by kernel_rfl) (by kernel_rfl) (by kernel_rfl) (by kernel_rfl) (fun _ _ _ h => h) (.inl ⟨by kernel_rfl, fun V hV => by go_simp⟩) hHeld ?_
              try simp only [Act.put]
              refine wpAnyH_done (by kernel_rfl) ?_ _
              go_wp2_with fail
              go_meet
              exact ⟨gx, Wd, ex, rfl, rfl, XS, OS, cz, zf⟩
      case' c20_9 =>
        go_simp
        have st := Chg.of_alloc V0 (.cells #[.int .i64 0, .int .i64 0, .slice none 0 0] 29) 0 0
        have XB := Lib.hid (SBox.new V0 29 #[.int .i64 0, .int .i64 0, .slice none 0 0])
        obtain ⟨gx, hgx⟩ : ∃ gx, gx = V0.heap.size := ⟨_, rfl⟩
        rw [← hgx] at XB
        have zg : V0.heap.size = gx := hgx.symm
        have sz1 : V0.heap.size ≤ (V0.alloc (.cells #[.int .i64 0, .int .i64 0, .slice none 0 0] 29)).heap.size := st.size
        have cc := Lib.hid (cc.out.trans st)
        refine hK'.out _ _ (hS.out _ cc.out) (fun hHeld => ?_)
        clear hK' st
        rw [← hgx]
        have zh := XB.out.lt
        generalize (V0.alloc (.cells #[.int .i64 0, .int .i64 0, .slice none 0 0] 29)) = V1 at cc XB sz1 zh hHeld ⊢
        clear hgx
        try simp only [Act.put, List.setIfInBounds_toArray, List.set_cons_zero, List.set_cons_succ]
        refine wpAnyH_ready (rs := [1]) (by kernel_rfl) (by simp) (AllReadyH.cons (i := 1) rfl (fun K' hK' => ?c209_1) AllReadyH.nil)
        case' c209_1 =>
          go_simp
          refine (toDeal A0 n0 c0 zss0 _ _ _ ((h0_181).still cc.out) hm0 hl0).mono ?_
          rintro e V2 ⟨g1, rfl, o1, st⟩
          have O0 := Lib.hid o1
          clear o1
          have sz2 : V1.heap.size ≤ V2.heap.size := st.size
          have XB := Lib.hid (XB.out.still st)
          have cc := Lib.hid (cc.out.trans st)
          refine hK'.out _ _ (hS.out _ cc.out) (fun hHeld => ?_)
          clear hK' st
          try simp only [Act.put, List.setIfInBounds_toArray, List.set_cons_zero, List.set_cons_succ]
          refine wpAnyH_ready (rs := [3]) (by kernel_rfl) (by simp) (AllReadyH.cons (i := 3) rfl (fun K' hK' => ?c209_1_3) AllReadyH.nil)
          case' c209_1_3 =>
            go_simp
            refine (toPlay sg1 lg1 A1 n1 c1 zs1 _ _ _ ((h1_182).still cc.out) hm1).mono ?_
            rintro e V3 ⟨g3, rfl, o3, st⟩
            have O1 := Lib.hid o3
            clear o3
            have sz3 : V2.heap.size ≤ V3.heap.size := st.size
            have O0 := Lib.hid (O0.out.still st)
            have XB := Lib.hid (XB.out.still st)
            have cc := Lib.hid (cc.out.trans st)
            refine hK'.out _ _ (hS.out _ cc.out) (fun hHeld => ?_)
            clear hK' st
            try simp only [Act.put, List.setIfInBounds_toArray, List.set_cons_zero, List.set_cons_succ]
            refine wpAnyH_ready (rs := [5]) (by kernel_rfl) (by simp) (AllReadyH.cons (i := 5) rfl (fun K' hK' => ?c209_1_3_5) AllReadyH.nil)
            case' c209_1_3_5 =>
              go_simp
              refine (impl_AddCard _ n0 n0 zss0 sg1 lg1 _ n1 n1 zs1 a2 _ (O0.out.rd.more (Nat.zero_le _) (by omega)) hl0 (O1.out.rd.more (Nat.zero_le _) (by omega)) hm1 (Nat.le_refl _) (fun e => by cases e)).mono ?_
              rw [HRR.out, ← HS.out, ← HL.out, ← HK.out]
              first | unfold RetPI | unfold RetPJ
              rintro e V4 ⟨u, rfl, qq, rr⟩
              obtain ⟨Wd, ex, rfl, _, _, jj⟩ := qq.form
              have st := Chg.of_below rr 0 0
              have OW := Lib.hid jj
              clear qq rr jj
              have sz4 : V3.heap.size ≤ V4.heap.size := st.size
              have O0 := Lib.hid (O0.out.still st)
              have O1 := Lib.hid (O1.out.still st)
              have XB := Lib.hid (XB.out.still st)
              have cc := Lib.hid (cc.out.trans st)
              refine hK'.out _ _ (hS.out _ cc.out) (fun hHeld => ?_)
              clear hK' st
              try simp only [Act.put, List.setIfInBounds_toArray, List.set_cons_zero, List.set_cons_succ]
              refine take_slotC (i := 6) (d := some 98) (v := .tuple #[.agg #[.int .i64 SS, .int .i64 LL, .slice Wd R.length ex], .int .i64 K]) rfl (by kernel_rfl) (by kernel_rfl) (by kernel_rfl) (by kernel_rfl) (fun _ _ _ h => h) (.inl ⟨by kernel_rfl, fun V hV => by go_simp⟩) hHeld ?_
              try simp only [Act.put, List.setIfInBounds_toArray, List.set_cons_zero, List.set_cons_succ]
              refine take_slotC (i := 7) (d := some 105) (v := .agg #[.int .i64 SS, .int .i64 LL, .slice Wd R.length ex]) rfl (by kernel_rfl) (by kernel_rfl) (by kernel_rfl) (by kernel_rfl) (fun _ _ _ h => h) (.inl ⟨by kernel_rfl, fun V hV => by go_simp⟩) hHeld ?_
              try simp only [Act.put, List.setIfInBounds_toArray, List.set_cons_zero, List.set_cons_succ]
              refine take_slotC (i := 8) (d := some 106) (v := .int .i64 K) rfl (by kernel_rfl) (by kernel_rfl) (by kernel_rfl) (by kernel_rfl) (fun _ _ _ h => h) (.inl ⟨by kernel_rfl, fun V hV => by go_simp⟩) hHeld ?_
              try simp only [Act.put, List.setIfInBounds_toArray, List.set_cons_zero, List.set_cons_succ]
              have rc : Chg V4 (V4.setRow gx #[.int .i64 SS, .int .i64 LL, .slice Wd R.length ex]) gx (gx + 1) := ⟨rfl, rfl, rfl, by rw [setRow_size]; exact Nat.le_refl _, fun k _ ho => setRow_other _ gx k _ (by omega)⟩
              have cz := cc.out.rowC (show w19.heap.size ≤ gx by omega) #[.int .i64 SS, .int .i64 LL, .slice Wd R.length ex]
              have XS := setRow_heap V4 gx _ #[.int .i64 SS, .int .i64 LL, .slice Wd R.length ex] _ _ XB.out
              have OS := (OW.out.chg rc (by omega)).more (lo' := w19.heap.size) (hi' := (V4.setRow gx #[.int .i64 SS, .int .i64 LL, .slice Wd R.length ex]).heap.size) (by omega) (by rw [setRow_size]; omega)
              have zf : w19.heap.size ≤ gx ∧ gx < (V4.setRow gx #[.int .i64 SS, .int .i64 LL, .slice Wd R.length ex]).heap.size := by rw [setRow_size]; exact ⟨by omega, XB.out.lt⟩
              refine wpAnyH_ready (rs := [10]) (by kernel_rfl) (by simp) (AllReadyH.cons (i := 10) rfl (fun K' hK' => ?_) AllReadyH.nil)
              refine step_of_wp7 rfl (wp_store_row 29 _ _ rfl gx #[.int .i64 SS, .int .i64 LL, .slice Wd R.length ex] rfl rfl 29 #[.int .i64 0, .int .i64 0, .slice none 0 0] XB.out (play_info _ _ _ _ _) rfl (play_cells _ _ _ _ _) ?_)
              refine hK'.out _ _ (hS.out _ cz) (fun hHeld => ?_)
              clear hK'
              try simp only [Act.put, List.setIfInBounds_toArray]
              refine take_slotC (i := 11) (d := some 18) (v := .int .i64 K) rfl (by kernel_rfl) (by kernel_rfl) (by kernel_rfl) (by kernel_rfl) (fun _ _ _ h => h) (.inl ⟨by kernel_rfl, fun V hV => by go_simp⟩) hHeld ?_
              try simp only [Act.put]
              refine wpAnyH_done (by kernel_rfl) ?_ _
              go_wp2_with fail
              go_meet
              exact ⟨gx, Wd, ex, rfl, rfl, XS, OS, cz, zf⟩
    case rest =>
      obtain ⟨gx20, Wd20, ex20, rfl, rfl, hx20, ho20, hc20, hz20⟩ := hcut
      have c20 := hc20.out
      have zz20 := hz20.out
      have x20 := hx20.out
      have j20 := ho20.out
      clear hc20 hz20 hx20 ho20
      generalize wc = w20 at c20 zz20 x20 j20 ⊢
      have h0_190 := h0_181.still c20
      have h1_191 := h1_182.still c20
      have A0_192 := A0_183.still c20
      have A1_193 := A1_184.still c20
      have W_194 := W_185.still c20
      have bW_195 := bW_186.still c20
      have bG_196 := bG_187.still c20
      have M_197 := M_188.still c20
      have b198 := Chg.above b189 c20 (by omega) (by omega)
      have t198 : w19.heap.size ≤ w20.heap.size := c20.size
      clear h0_181 h1_182 A0_183 A1_184 W_185 bW_186 bG_187 M_188 b189 c20
      go_wp2_with (first | (refine wpList_load_row rfl 57 _ rfl w.heap.size rfl 57 #[.slice A0 n0 c0] (0, 0) _ A0_192 Try.underlying57 rfl (ldeal_info7 _) ?_) | (refine wpList_load_row rfl 52 _ rfl (w.heap.size + 1) rfl 52 #[.int .i64 sg1, .int .i64 lg1, .slice A1 n1 c1] (0, 0) _ A1_193 Try.underlying52 rfl (plinfo _ _ _ _ _) ?_) | (refine wpList_load_row rfl 29 _ rfl gx3 rfl 29 #[.int .i64 SS, .int .i64 LL, .slice Wd3 R.length ex3] (0, 0) _ bW_195 Try.underlying29 rfl (play_info _ _ _ _ _) ?_) | (refine wpList_load_row rfl 29 _ rfl w8.heap.size rfl 29 #[.int .i64 SS, .int .i64 LL, .slice W8 R.length e8] (0, 0) _ bG_196 Try.underlying29 rfl (play_info _ _ _ _ _) ?_) | (refine wpList_load_row rfl 29 _ rfl gx20 rfl 29 #[.int .i64 SS, .int .i64 LL, .slice Wd20 R.length ex20] (0, 0) _ x20 Try.underlying29 rfl (play_info _ _ _ _ _) ?_))
      refine (eqPlay SS LL _ _ R.length R.length _ _ R _ _ _ _ _ j20.rd W_194.rd hRn).mono ?_
      rintro e w21 ⟨rfl, c21⟩
      have h0_199 := h0_190.still c21
      have h1_200 := h1_191.still c21
      have A0_201 := A0_192.still c21
      have A1_202 := A1_193.still c21
      have W_203 := W_194.still c21
      have bW_204 := bW_195.still c21
      have bG_205 := bG_196.still c21
      have M_206 := M_197.still c21
      have K_207 := j20.still c21
      have bK_208 := x20.still c21
      have b209 := Chg.above b198 c21 (by omega) (by omega)
      have t209 : w20.heap.size ≤ w21.heap.size := c21.size
      clear h0_190 h1_191 A0_192 A1_193 W_194 bW_195 bG_196 M_197 j20 x20 b198 c21
      go_wp2_with (first | (refine wpList_load_row rfl 57 _ rfl w.heap.size rfl 57 #[.slice A0 n0 c0] (0, 0) _ A0_201 Try.underlying57 rfl (ldeal_info7 _) ?_) | (refine wpList_load_row rfl 52 _ rfl (w.heap.size + 1) rfl 52 #[.int .i64 sg1, .int .i64 lg1, .slice A1 n1 c1] (0, 0) _ A1_202 Try.underlying52 rfl (plinfo _ _ _ _ _) ?_) | (refine wpList_load_row rfl 29 _ rfl gx3 rfl 29 #[.int .i64 SS, .int .i64 LL, .slice Wd3 R.length ex3] (0, 0) _ bW_204 Try.underlying29 rfl (play_info _ _ _ _ _) ?_) | (refine wpList_load_row rfl 29 _ rfl w8.heap.size rfl 29 #[.int .i64 SS, .int .i64 LL, .slice W8 R.length e8] (0, 0) _ bG_205 Try.underlying29 rfl (play_info _ _ _ _ _) ?_) | (refine wpList_load_row rfl 29 _ rfl gx20 rfl 29 #[.int .i64 SS, .int .i64 LL, .slice Wd20 R.length ex20] (0, 0) _ bK_208 Try.underlying29 rfl (play_info _ _ _ _ _) ?_))
      refine (heldPlay1 SS LL _ R.length _ _ _ _ M_206.rd hRn).mono ?_
      rintro e w22 ⟨rfl, c22⟩
      have h0_210 := h0_199.still c22
      have h1_211 := h1_200.still c22
      have A0_212 := A0_201.still c22
      have A1_213 := A1_202.still c22
      have W_214 := W_203.still c22
      have bW_215 := bW_204.still c22
      have bG_216 := bG_205.still c22
      have M_217 := M_206.still c22
      have K_218 := K_207.still c22
      have bK_219 := bK_208.still c22
      have b220 := Chg.above b209 c22 (by omega) (by omega)
      have t220 : w21.heap.size ≤ w22.heap.size := c22.size
      clear h0_199 h1_200 A0_201 A1_202 W_203 bW_204 bG_205 M_206 K_207 bK_208 b209 c22
      go_wp2_with (first | (refine wpList_load_row rfl 57 _ rfl w.heap.size rfl 57 #[.slice A0 n0 c0] (0, 0) _ A0_212 Try.underlying57 rfl (ldeal_info7 _) ?_) | (refine wpList_load_row rfl 52 _ rfl (w.heap.size + 1) rfl 52 #[.int .i64 sg1, .int .i64 lg1, .slice A1 n1 c1] (0, 0) _ A1_213 Try.underlying52 rfl (plinfo _ _ _ _ _) ?_) | (refine wpList_load_row rfl 29 _ rfl gx3 rfl 29 #[.int .i64 SS, .int .i64 LL, .slice Wd3 R.length ex3] (0, 0) _ bW_215 Try.underlying29 rfl (play_info _ _ _ _ _) ?_) | (refine wpList_load_row rfl 29 _ rfl w8.heap.size rfl 29 #[.int .i64 SS, .int .i64 LL, .slice W8 R.length e8] (0, 0) _ bG_216 Try.underlying29 rfl (play_info _ _ _ _ _) ?_) | (refine wpList_load_row rfl 29 _ rfl gx20 rfl 29 #[.int .i64 SS, .int .i64 LL, .slice Wd20 R.length ex20] (0, 0) _ bK_219 Try.underlying29 rfl (play_info _ _ _ _ _) ?_))
      go_ret
      exact ⟨rfl, b220⟩

end Go.Proofs.Yteglffbeldlibaa.Lib1
