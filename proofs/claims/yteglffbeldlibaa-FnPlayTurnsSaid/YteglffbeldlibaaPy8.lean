/- Chapter 8, the program: what is asked of a play of a deal. (Written by wip/gen8o.py.) -/
import Derived.Test.YteglffbeldlibaaPw8
namespace Go.Proofs.Yteglffbeldlibaa.Lib1
open Go.RowKit
set_option maxRecDepth 100000

theorem impl_IsPlay (A' : Option Addr) (n' c' : Nat) (zss : List (List Int)) (st ld : Int) (A : Option Addr) (n c : Nat) (cs : List Int) (w : World) (hD : RdR w 0 w.heap.size A' n' zss) (hlz : ∀ j, j < n' → (zss.getD j []).length ≤ 1048576) (h : Rd w 0 w.heap.size A n cs) (hn : n ≤ 1048576) (hcap : n ≤ c) (hnil : A = none → c = 0) :
    Calls Try.prog 25 #[.agg #[.slice A' n' c'], .agg #[.int .i64 st, .int .i64 ld, .slice A n c]] w fun e w' => e = .returned (.bool (playB zss st ld cs)) ∧ Chg w w' 0 0 := by
  have e1 : (w.alloc (.cells #[.slice A' n' c'] 26)).heap.size = w.heap.size + 1 := by simp
  have c1 := Chg.of_alloc w (.cells #[.slice A' n' c'] 26) 0 0
  have c2 := Chg.of_alloc (w.alloc (.cells #[.slice A' n' c'] 26)) (.cells #[.int .i64 st, .int .i64 ld, .slice A n c] 29) 0 0
  have x1 := (SBox.new w 26 #[.slice A' n' c']).still c2
  have x2 := SBox.new (w.alloc (.cells #[.slice A' n' c'] 26)) 29 #[.int .i64 st, .int .i64 ld, .slice A n c]
  rw [e1] at x2
  have C0 := Lib.hid (c1.trans c2)
  have X1 := Lib.hid x1
  have X2 := Lib.hid x2
  have D0 := Lib.hid (show RdR ((w.alloc (.cells #[.slice A' n' c'] 26)).alloc (.cells #[.int .i64 st, .int .i64 ld, .slice A n c] 29)) 0 _ A' n' zss from (hD.still C0.out).all)
  have H0 := Lib.hid (show Rd ((w.alloc (.cells #[.slice A' n' c'] 26)).alloc (.cells #[.int .i64 st, .int .i64 ld, .slice A n c] 29)) 0 _ A n cs from (h.still C0.out).all)
  clear hD h e1 c1 c2 x1 x2
  go_enter Try.func25, Try.ntmps25
  go_wp2_with (first | (refine wpList_load_row rfl 26 _ rfl w.heap.size rfl 26 #[.slice A' n' c'] (0, 0) _ X1.out Try.underlying26 rfl (deal_info7 _) ?_) | (refine wpList_load_row rfl 29 _ rfl (w.heap.size + 1) rfl 29 #[.int .i64 st, .int .i64 ld, .slice A n c] (0, 0) _ X2.out Try.underlying29 rfl (play_info _ _ _ _ _) ?_))
  generalize ((w.alloc (.cells #[.slice A' n' c'] 26)).alloc (.cells #[.int .i64 st, .int .i64 ld, .slice A n c] 29)) = W at C0 X1 X2 D0 H0 ⊢
  refine (playingOf8 A' n' c' zss st ld A n c cs W D0.out hlz H0.out hn hcap hnil).mono ?_
  rintro e w1 ⟨v, rfl, b1, hg⟩
  have C1 := Lib.hid (C0.out.trans (Chg.of_below b1 0 0))
  have HGI := Lib.hid hg
  have ZB := Lib.hid b1.size
  have ZW := Lib.hid C0.out.size
  clear b1 hg C0 X1 X2 D0 H0
  go_wp2
  go_ret
  exact ⟨rfl, C1.out⟩

set_option maxHeartbeats 3200000 in
theorem impl_TurnOf (A' : Option Addr) (n' c' : Nat) (zss : List (List Int)) (st ld : Int) (A : Option Addr) (n c : Nat) (cs : List Int) (w : World) (hD : RdR w 0 w.heap.size A' n' zss) (hlz : ∀ j, j < n' → (zss.getD j []).length ≤ 1048576) (h : Rd w 0 w.heap.size A n cs) (hn : n ≤ 1048576) (hcap : n ≤ c) (hnil : A = none → c = 0) :
    Calls Try.prog 22 #[.agg #[.slice A' n' c'], .agg #[.int .i64 st, .int .i64 ld, .slice A n c]] w fun e w' => e = .returned (.int .i64 (turnV zss st ld cs)) ∧ Chg w w' 0 0 := by
  have HT := Lib.hid (show turnV zss st ld cs = if playB zss st ld cs && !doneB zss cs then turnL st ld cs else -1 from rfl)
  obtain ⟨R, hR⟩ : ∃ R, R = turnV zss st ld cs := ⟨_, rfl⟩
  rw [← hR] at HT ⊢
  clear hR
  have e1 : (w.alloc (.cells #[.slice A' n' c'] 26)).heap.size = w.heap.size + 1 := by simp
  have c1 := Chg.of_alloc w (.cells #[.slice A' n' c'] 26) 0 0
  have c2 := Chg.of_alloc (w.alloc (.cells #[.slice A' n' c'] 26)) (.cells #[.int .i64 st, .int .i64 ld, .slice A n c] 29) 0 0
  have x1 := (SBox.new w 26 #[.slice A' n' c']).still c2
  have x2 := SBox.new (w.alloc (.cells #[.slice A' n' c'] 26)) 29 #[.int .i64 st, .int .i64 ld, .slice A n c]
  rw [e1] at x2
  have C0 := Lib.hid (c1.trans c2)
  have X1 := Lib.hid x1
  have X2 := Lib.hid x2
  have D0 := Lib.hid (show RdR ((w.alloc (.cells #[.slice A' n' c'] 26)).alloc (.cells #[.int .i64 st, .int .i64 ld, .slice A n c] 29)) 0 _ A' n' zss from (hD.still C0.out).all)
  have H0 := Lib.hid (show Rd ((w.alloc (.cells #[.slice A' n' c'] 26)).alloc (.cells #[.int .i64 st, .int .i64 ld, .slice A n c] 29)) 0 _ A n cs from (h.still C0.out).all)
  clear hD h e1 c1 c2 x1 x2
  go_enter Try.func22, Try.ntmps22
  go_wp2_with (first | (refine wpList_load_row rfl 26 _ rfl w.heap.size rfl 26 #[.slice A' n' c'] (0, 0) _ X1.out Try.underlying26 rfl (deal_info7 _) ?_) | (refine wpList_load_row rfl 29 _ rfl (w.heap.size + 1) rfl 29 #[.int .i64 st, .int .i64 ld, .slice A n c] (0, 0) _ X2.out Try.underlying29 rfl (play_info _ _ _ _ _) ?_))
  generalize ((w.alloc (.cells #[.slice A' n' c'] 26)).alloc (.cells #[.int .i64 st, .int .i64 ld, .slice A n c] 29)) = W at C0 X1 X2 D0 H0 ⊢
  refine (playingOf8 A' n' c' zss st ld A n c cs W D0.out hlz H0.out hn hcap hnil).mono ?_
  rintro e w1 ⟨v, rfl, b1, hg⟩
  have C1 := Lib.hid (C0.out.trans (Chg.of_below b1 0 0))
  have HGI := Lib.hid hg
  have ZB := Lib.hid b1.size
  have ZW := Lib.hid C0.out.size
  clear b1 hg C0 X1 X2 D0 H0
  cases hp : playB zss st ld cs
  · have hr : Hid (R = -1) := by show R = _; rw [HT.out, hp]; rfl
    clear hp
    go_wp2
    go_ret
    exact ⟨by rw [hr.out]; first | done | rfl, C1.out⟩
  obtain ⟨g, rfl, hg⟩ := HGI.out hp
  obtain ⟨hd, hpl, _⟩ := play_parts hp
  obtain ⟨hdf, _, hld, _⟩ := plain_parts hpl
  have HP := Lib.hid hp
  have HG := Lib.hid hg
  have HZ := Lib.hid (fun j (hj : j < cs.length) => diff_card hdf hj)
  have HBW := Lib.hid (show W.heap.size ≤ w1.heap.size from Nat.le_trans (Nat.le_refl _) ZB.out)
  clear hp hg hpl hdf HGI
  have hfi := fin_iff HP.out
  have hdn : decide ((leftL (zss.getD (turnL st ld cs).toNat []) cs).length = 0) = doneB zss cs := by
    cases hq : doneB zss cs
    · exact decide_eq_false fun e => by rw [hfi.1 e] at hq; cases hq
    · exact decide_eq_true (hfi.2 hq)
  have HDN := Lib.hid hdn
  clear hfi hdn
  go_wp2_with fail
  refine (finished8 g W.heap.size zss st ld cs w1 HG.out hld hd).mono ?_
  rw [HDN.out]
  rintro e w2 ⟨rfl, c2⟩
  have C2 := Lib.hid (C1.out.trans c2)
  have G2 := Lib.hid (HG.out.still c2)
  clear c2 C1 HG HDN
  cases hq : doneB zss cs
  · have hr : Hid (R = turnL st ld cs) := by show R = _; rw [HT.out, HP.out, hq]; rfl
    clear hq
    obtain ⟨c, b, cb, lo, hi, h1, h2, _⟩ := G2.out
    have g0 := h1.c0
    have H2 := Lib.hid h2
    clear h1 h2 G2
    go_wp2_with fail
    refine (turn8 c W.heap.size _ st ld cs w2 H2.out hld).mono ?_
    rintro e w3 ⟨rfl, c3⟩
    go_wp2
    go_ret
    exact ⟨by rw [hr.out]; first | done | rfl, C2.out.trans c3⟩
  · have hr : Hid (R = -1) := by show R = _; rw [HT.out, HP.out, hq]; rfl
    clear hq
    go_wp2
    go_ret
    exact ⟨by rw [hr.out]; first | done | rfl, C2.out⟩

theorem impl_LegalCards (A' : Option Addr) (n' c' : Nat) (zss : List (List Int)) (st ld : Int) (A : Option Addr) (n c : Nat) (cs : List Int) (w : World) (hD : RdR w 0 w.heap.size A' n' zss) (hlz : ∀ j, j < n' → (zss.getD j []).length ≤ 1048576) (h : Rd w 0 w.heap.size A n cs) (hn : n ≤ 1048576) (hcap : n ≤ c) (hnil : A = none → c = 0) :
    Calls Try.prog 19 #[.agg #[.slice A' n' c'], .agg #[.int .i64 st, .int .i64 ld, .slice A n c]] w (RetS w (legV zss st ld cs)) := by
  have HV := Lib.hid (fun e => (legV_play (zss := zss) (st := st) (ld := ld) (cs := cs) e))
  have HN := Lib.hid (show playB zss st ld cs = false → legV zss st ld cs = [] from fun e => by unfold legV; rw [e]; rfl)
  obtain ⟨R, hR⟩ : ∃ R, R = legV zss st ld cs := ⟨_, rfl⟩
  rw [← hR] at HV HN ⊢
  clear hR
  have e1 : (w.alloc (.cells #[.slice A' n' c'] 26)).heap.size = w.heap.size + 1 := by simp
  have c1 := Chg.of_alloc w (.cells #[.slice A' n' c'] 26) 0 0
  have c2 := Chg.of_alloc (w.alloc (.cells #[.slice A' n' c'] 26)) (.cells #[.int .i64 st, .int .i64 ld, .slice A n c] 29) 0 0
  have x1 := (SBox.new w 26 #[.slice A' n' c']).still c2
  have x2 := SBox.new (w.alloc (.cells #[.slice A' n' c'] 26)) 29 #[.int .i64 st, .int .i64 ld, .slice A n c]
  rw [e1] at x2
  have C0 := Lib.hid (c1.trans c2)
  have X1 := Lib.hid x1
  have X2 := Lib.hid x2
  have D0 := Lib.hid (show RdR ((w.alloc (.cells #[.slice A' n' c'] 26)).alloc (.cells #[.int .i64 st, .int .i64 ld, .slice A n c] 29)) 0 _ A' n' zss from (hD.still C0.out).all)
  have H0 := Lib.hid (show Rd ((w.alloc (.cells #[.slice A' n' c'] 26)).alloc (.cells #[.int .i64 st, .int .i64 ld, .slice A n c] 29)) 0 _ A n cs from (h.still C0.out).all)
  clear hD h e1 c1 c2 x1 x2
  go_enter Try.func19, Try.ntmps19
  go_wp2_with (first | (refine wpList_load_row rfl 26 _ rfl w.heap.size rfl 26 #[.slice A' n' c'] (0, 0) _ X1.out Try.underlying26 rfl (deal_info7 _) ?_) | (refine wpList_load_row rfl 29 _ rfl (w.heap.size + 1) rfl 29 #[.int .i64 st, .int .i64 ld, .slice A n c] (0, 0) _ X2.out Try.underlying29 rfl (play_info _ _ _ _ _) ?_))
  generalize ((w.alloc (.cells #[.slice A' n' c'] 26)).alloc (.cells #[.int .i64 st, .int .i64 ld, .slice A n c] 29)) = W at C0 X1 X2 D0 H0 ⊢
  refine (playingOf8 A' n' c' zss st ld A n c cs W D0.out hlz H0.out hn hcap hnil).mono ?_
  rintro e w1 ⟨v, rfl, b1, hg⟩
  have C1 := Lib.hid (C0.out.trans (Chg.of_below b1 0 0))
  have HGI := Lib.hid hg
  have ZB := Lib.hid b1.size
  have ZW := Lib.hid C0.out.size
  clear b1 hg C0 X1 X2 D0 H0
  cases hp : playB zss st ld cs
  · have hr : Hid (R = []) := HN.out hp
    clear hp
    go_wp2
    go_ret
    exact ⟨none, 0, by rw [hr.out]; first | done | rfl, by rw [hr.out]; exact Nat.le_refl _, .inl ⟨rfl, rfl⟩, by rw [hr.out]; exact Own.none_, C1.out⟩
  obtain ⟨g, rfl, hg⟩ := HGI.out hp
  obtain ⟨hd, hpl, _⟩ := play_parts hp
  obtain ⟨hdf, _, hld, _⟩ := plain_parts hpl
  have HP := Lib.hid hp
  have HG := Lib.hid hg
  have HZ := Lib.hid (fun j (hj : j < cs.length) => diff_card hdf hj)
  have HBW := Lib.hid (show W.heap.size ≤ w1.heap.size from Nat.le_trans (Nat.le_refl _) ZB.out)
  clear hp hg hpl hdf HGI
  have hr := Lib.hid (HV.out HP.out)
  have hlg := legal8 g W.heap.size zss st ld cs w1 HG.out HBW.out hld hd HZ.out
  rw [← hr.out] at hlg
  clear HG
  go_wp2_with fail
  refine hlg.mono ?_
  rintro e w2 ⟨A2, c2, rfl, g1, g2, g3, g4⟩
  have G3 := Lib.hid g3
  clear g3
  go_wp2
  go_ret
  exact ⟨A2, c2, rfl, g1, g2, G3.out.more ZW.out (Nat.le_refl _), C1.out.trans g4⟩

/-- Rows of the call's own are handed back. -/
def RetR9 (w : World) (zss : List (List Int)) (e : Ending) (w' : World) : Prop := ∃ A c, e = .returned (.slice A zss.length c) ∧ zss.length ≤ c ∧ OwnR w' w.heap.size w'.heap.size A zss.length zss ∧ Chg w w' 0 0
theorem impl_CardsLeft (A' : Option Addr) (n' c' : Nat) (zss : List (List Int)) (st ld : Int) (A : Option Addr) (n c : Nat) (cs : List Int) (w : World) (hD : RdR w 0 w.heap.size A' n' zss) (hlz : ∀ j, j < n' → (zss.getD j []).length ≤ 1048576) (h : Rd w 0 w.heap.size A n cs) (hn : n ≤ 1048576) (hcap : n ≤ c) (hnil : A = none → c = 0) :
    Calls Try.prog 24 #[.agg #[.slice A' n' c'], .agg #[.int .i64 st, .int .i64 ld, .slice A n c]] w (RetR9 w (cleftV zss st ld cs)) := by
  have HV := Lib.hid (show cleftV zss st ld cs = if playB zss st ld cs then leftTo zss cs 4 else [] from rfl)
  obtain ⟨R, hR⟩ : ∃ R, R = cleftV zss st ld cs := ⟨_, rfl⟩
  rw [← hR] at HV ⊢
  clear hR
  have e1 : (w.alloc (.cells #[.slice A' n' c'] 26)).heap.size = w.heap.size + 1 := by simp
  have c1 := Chg.of_alloc w (.cells #[.slice A' n' c'] 26) 0 0
  have c2 := Chg.of_alloc (w.alloc (.cells #[.slice A' n' c'] 26)) (.cells #[.int .i64 st, .int .i64 ld, .slice A n c] 29) 0 0
  have x1 := (SBox.new w 26 #[.slice A' n' c']).still c2
  have x2 := SBox.new (w.alloc (.cells #[.slice A' n' c'] 26)) 29 #[.int .i64 st, .int .i64 ld, .slice A n c]
  rw [e1] at x2
  have C0 := Lib.hid (c1.trans c2)
  have X1 := Lib.hid x1
  have X2 := Lib.hid x2
  have D0 := Lib.hid (show RdR ((w.alloc (.cells #[.slice A' n' c'] 26)).alloc (.cells #[.int .i64 st, .int .i64 ld, .slice A n c] 29)) 0 _ A' n' zss from (hD.still C0.out).all)
  have H0 := Lib.hid (show Rd ((w.alloc (.cells #[.slice A' n' c'] 26)).alloc (.cells #[.int .i64 st, .int .i64 ld, .slice A n c] 29)) 0 _ A n cs from (h.still C0.out).all)
  clear hD h e1 c1 c2 x1 x2
  go_enter Try.func24, Try.ntmps24
  go_wp2_with (first | (refine wpList_load_row rfl 26 _ rfl w.heap.size rfl 26 #[.slice A' n' c'] (0, 0) _ X1.out Try.underlying26 rfl (deal_info7 _) ?_) | (refine wpList_load_row rfl 29 _ rfl (w.heap.size + 1) rfl 29 #[.int .i64 st, .int .i64 ld, .slice A n c] (0, 0) _ X2.out Try.underlying29 rfl (play_info _ _ _ _ _) ?_))
  generalize ((w.alloc (.cells #[.slice A' n' c'] 26)).alloc (.cells #[.int .i64 st, .int .i64 ld, .slice A n c] 29)) = W at C0 X1 X2 D0 H0 ⊢
  refine (playingOf8 A' n' c' zss st ld A n c cs W D0.out hlz H0.out hn hcap hnil).mono ?_
  rintro e w1 ⟨v, rfl, b1, hg⟩
  have C1 := Lib.hid (C0.out.trans (Chg.of_below b1 0 0))
  have HGI := Lib.hid hg
  have ZB := Lib.hid b1.size
  have ZW := Lib.hid C0.out.size
  clear b1 hg C0 X1 X2 D0 H0
  cases hp : playB zss st ld cs
  · have hr : Hid (R = []) := by show R = _; rw [HV.out, hp]; rfl
    clear hp
    go_wp2
    go_ret
    exact ⟨none, 0, by rw [hr.out]; first | done | rfl, by rw [hr.out]; exact Nat.le_refl _, by rw [hr.out]; exact OwnR.none_, C1.out⟩
  obtain ⟨g, rfl, hg⟩ := HGI.out hp
  obtain ⟨hd, hpl, _⟩ := play_parts hp
  obtain ⟨hdf, _, hld, _⟩ := plain_parts hpl
  have HP := Lib.hid hp
  have HG := Lib.hid hg
  have HZ := Lib.hid (fun j (hj : j < cs.length) => diff_card hdf hj)
  have HBW := Lib.hid (show W.heap.size ≤ w1.heap.size from Nat.le_trans (Nat.le_refl _) ZB.out)
  clear hp hg hpl hdf HGI
  have hr : Hid (R = leftTo zss cs 4) := by show R = _; rw [HV.out, HP.out]; rfl
  obtain ⟨c, b, cb, lo, hi, h1, _, h3, _, ⟨_, h6, h7⟩, h8⟩ := HG.out
  have g1 := h1.c1
  have H3 := Lib.hid h3
  clear h1 h3 HG
  go_wp2
  go_ret
  have hl4 : (leftTo zss cs 4).length = 4 := leftTo_len _ _ _
  exact ⟨some ⟨b, 0, none⟩, cb, by rw [hr.out, hl4]; first | done | rfl, by rw [hr.out, hl4]; exact h7, by rw [hr.out, hl4]; exact H3.out.more (Nat.le_trans ZW.out h6) h8, C1.out⟩
end Go.Proofs.Yteglffbeldlibaa.Lib1
