/- Chapter 8, the model: the cards that are left. (Written by wip/gen8g.py.) -/
import Derived.Test.YteglffbeldlibaaPlayQ8
import Derived.Test.YteglffbeldlibaaMapE
namespace Go.Proofs.Yteglffbeldlibaa.Lib1
open Go.RowKit
set_option maxRecDepth 100000

theorem OwnVR.made8 (w : World) {base : Nat} (hb : base ≤ w.heap.size) : OwnVR (w.alloc (.cells #[] 27)) base (.slice (some ⟨w.heap.size, 0, none⟩) 0 0) [] :=
  ⟨fun _ => none, fun _ => 0, ⟨by simp [rowV], .inr ⟨w.heap.size, 0, #[], rfl, hb, heap_alloc_new w _, Nat.le_refl _, Nat.zero_le _, by simp, by simp [rowV]⟩⟩, fun _ h => absurd h (by simp), fun _ _ _ h => absurd h (by simp)⟩
/-- The cards that are left to the first q seats. -/
def leftTo (zss : List (List Int)) (cs : List Int) (q : Nat) : List (List Int) := (List.range q).map fun s => leftL (zss.getD s []) cs
theorem leftTo_len (zss : List (List Int)) (cs : List Int) (q : Nat) : (leftTo zss cs q).length = q := by simp [leftTo]
theorem leftTo_succ (zss : List (List Int)) (cs : List Int) (q : Nat) : leftTo zss cs (q + 1) = leftTo zss cs q ++ [leftL (zss.getD q []) cs] := by simp [leftTo, List.range_succ]
theorem leftTo_at {zss : List (List Int)} {cs : List Int} {q s : Nat} (h : s < q) : (leftTo zss cs q).getD s [] = leftL (zss.getD s []) cs := by simp [leftTo, List.getD, h]
def cleftV (zss : List (List Int)) (st ld : Int) (cs : List Int) : List (List Int) := if playB zss st ld cs then leftTo zss cs 4 else []
set_option maxHeartbeats 8000000 in
/-- spec.CardsLeft -/
theorem spec_CardsLeft (A' : Option Addr) (n' c' : Nat) (zss : List (List Int)) (st ld : Int) (A : Option Addr) (n c : Nat) (cs : List Int) (w : World) (hD : RdR w 0 w.heap.size A' n' zss) (hlz : ∀ j, j < n' → (zss.getD j []).length ≤ 1048576) (h : Rd w 0 w.heap.size A n cs) (hn : n ≤ 1048576) (hcap : n ≤ c) (hnil : A = none → c = 0) :
    Calls Try.prog 56 #[.agg #[.slice A' n' c'], .agg #[.int .i64 st, .int .i64 ld, .slice A n c]] w (RetVR w (cleftV zss st ld cs)) := by
  have HN' := Lib.hid hD.1
  have HV := Lib.hid (show cleftV zss st ld cs = if playB zss st ld cs then leftTo zss cs 4 else [] from rfl)
  obtain ⟨R, hR⟩ : ∃ R, R = cleftV zss st ld cs := ⟨_, rfl⟩
  rw [← hR] at HV ⊢
  clear hR
  have e1 : (w.alloc (.cells #[.slice A' n' c'] 26)).heap.size = w.heap.size + 1 := by simp
  have c1 := Chg.of_alloc w (.cells #[.slice A' n' c'] 26) 0 0
  have c2 := Chg.of_alloc (w.alloc (.cells #[.slice A' n' c'] 26)) (.cells #[.int .i64 st, .int .i64 ld, .slice A n c] 29) 0 0
  have x1 := (SBox.new w 26 #[.slice A' n' c']).still c2
  have x2 := SBox.new (w.alloc (.cells #[.slice A' n' c'] 26)) 29 #[.int .i64 st, .int .i64 ld, .slice A n c]
  rw [e1] at x2
  have C0 := Lib.hid (c1.trans c2)
  have X1 := Lib.hid x1
  have X2 := Lib.hid x2
  have z0 : w.heap.size + 1 < ((w.alloc (.cells #[.slice A' n' c'] 26)).alloc (.cells #[.int .i64 st, .int .i64 ld, .slice A n c] 29)).heap.size := by simp
  have D0 := Lib.hid (hD.still C0.out)
  have H0 := Lib.hid (h.still C0.out)
  clear hD h e1 c1 c2 x1 x2
  go_enter Try.func56, Try.ntmps56
  go_wp2_with (first | (refine wpList_load_row rfl 26 _ rfl w.heap.size rfl 26 #[.slice A' n' c'] (0, 0) _ X1.out Try.underlying26 rfl (deal_info7 _) ?_) | (refine wpList_load_row rfl 29 _ rfl (w.heap.size + 1) rfl 29 #[.int .i64 st, .int .i64 ld, .slice A n c] (0, 0) _ X2.out Try.underlying29 rfl (play_info _ _ _ _ _) ?_))
  generalize ((w.alloc (.cells #[.slice A' n' c'] 26)).alloc (.cells #[.int .i64 st, .int .i64 ld, .slice A n c] 29)) = W at C0 X1 X2 D0 H0 z0 ⊢
  refine (spec_IsPlay A' n' c' zss st ld A n c cs W (D0.out.more (Nat.le_refl 0) (by omega)) hlz (H0.out.more (Nat.le_refl 0) (by omega)) hn hcap hnil).mono ?_
  rintro e w1 ⟨rfl, c1⟩
  have Y1 := Lib.hid (X1.out.still c1)
  have Y2 := Lib.hid (X2.out.still c1)
  have D1 := Lib.hid (D0.out.still c1)
  have R1 := Lib.hid (H0.out.still c1)
  have C1 := Lib.hid (C0.out.trans c1)
  have z1 : w.heap.size + 1 < w1.heap.size := by have := c1.size; omega
  clear c1 X1 X2 D0 H0 C0 z0
  cases hpb : playB zss st ld cs
  · have hr := Lib.hid (show R = [] by rw [HV.out, hpb]; rfl)
    clear hpb
    go_wp2_with fail
    go_ret
    rw [hr.out]
    exact ⟨_, rfl, OwnVR.nil_ _ _, C1.out.to_below⟩
  obtain ⟨hdl, _, _⟩ := turn_ok hpb
  have hn4 := Lib.hid (show n' = 4 by rw [← HN'.out]; exact ((deal_iff zss).1 hdl).1)
  have HV := Lib.hid (show R = leftTo zss cs 4 by rw [HV.out, hpb]; rfl)
  clear hpb hdl
  have ca := Chg.of_alloc w1 (.cells #[] 27) 0 0
  have V1 := Lib.hid (OwnVR.made8 w1 (base := w.heap.size + 2) (by omega))
  have X1 := Lib.hid (Y1.out.still ca)
  have X2 := Lib.hid (Y2.out.still ca)
  have D2 := Lib.hid (D1.out.still ca)
  have R2 := Lib.hid (R1.out.still ca)
  have C2 := Lib.hid (C1.out.trans ca).to_below
  have z2 : w.heap.size + 2 ≤ (w1.alloc (.cells #[] 27)).heap.size := by have := ca.size; omega
  clear ca Y1 Y2 D1 R1 C1
  go_wp2_with fail
  generalize hu : Value.slice (some ⟨w1.heap.size, 0, none⟩) 0 0 = u1 at V1 ⊢
  clear hu
  generalize w1.alloc (.cells #[] 27) = W2 at V1 X1 X2 D2 R2 C2 z2 ⊢
  go_loopw [5, 6] (fun v i wr => ∃ q : Nat, q ≤ 4 ∧ i = .int .i64 q ∧ Hid (OwnVR wr (w.heap.size + 2) v (leftTo zss cs q)) ∧ Hid (SBox wr 26 w.heap.size #[.slice A' n' c']) ∧ Hid (SBox wr 29 (w.heap.size + 1) #[.int .i64 st, .int .i64 ld, .slice A n c]) ∧ Hid (RdR wr 0 w.heap.size A' n' zss) ∧ Hid (Rd wr 0 w.heap.size A n cs) ∧ Hid (Below w.heap.size w wr) ∧ Hid (w.heap.size + 2 ≤ wr.heap.size)) (fun _ i _ => 4 - (intOf i).toNat)
  case atStart => exact ⟨0, by omega, rfl, V1.out, X1.out, X2.out, D2.out, R2.out, C2.out, z2⟩
  case round =>
    obtain ⟨q, hq, rfl, hv, hX1, hX2, hDD, hRR, hB, hz⟩ := hrel
    by_cases hlt : q < 4
    · have hql : (q : Int) < 4 := by omega
      have HS := Lib.hid (leftTo_succ zss cs q)
      have hlen : (leftTo zss cs q).length ≤ 1048576 := by rw [leftTo_len]; omega
      obtain ⟨L, hL⟩ : ∃ L, L = leftTo zss cs q := ⟨_, rfl⟩
      rw [← hL] at hv HS hlen
      clear hL
      go_wp2_with (first | (refine wpList_load_row rfl 26 _ rfl w.heap.size rfl 26 #[.slice A' n' c'] (0, 0) _ hX1.out Try.underlying26 rfl (deal_info7 _) ?_) | (refine wpList_load_row rfl 29 _ rfl (w.heap.size + 1) rfl 29 #[.int .i64 st, .int .i64 ld, .slice A n c] (0, 0) _ hX2.out Try.underlying29 rfl (play_info _ _ _ _ _) ?_))
      refine (l08Left A' n' c' zss st ld A n c cs q _ (hDD.out.more (Nat.le_refl 0) (by have := hz.out; omega)) (by have := hn4.out; omega) (hlz q (by have := hn4.out; omega)) (by have := hn4.out; omega) (hRR.out.more (Nat.le_refl 0) (by have := hz.out; omega)) hn).mono ?_
      rintro e w3 ⟨v3, rfl, o3, b3⟩
      obtain ⟨D, cd, rfl, hcd, hpl, od⟩ := o3.form
      have k3 : Chg wr w3 0 0 := Chg.of_below b3 0 0
      generalize leftL (zss.getD q []) cs = row at HS od hcd ⊢
      have OD := Lib.hid od
      have N1 := Lib.hid (hX1.out.still k3)
      have N2 := Lib.hid (hX2.out.still k3)
      have N3 := Lib.hid (hDD.out.still k3)
      have N4 := Lib.hid (hRR.out.still k3)
      have B3 := Lib.hid b3
      clear o3 od k3 b3
      go_wp2_with (at_builtin; refine wpList_pushR (w := wr) (w1 := w3) rfl (.tmp 16) (.tmp 21) rfl (w.heap.size + 2) _ L (by rfl) hv.out (fun k _ hk => B3.out.block k hk) B3.out.size D cd row OD.out hcd hpl (by rfl) hlen hz.out ?_; intro v4 w4 o4 b4)
      have V4 := Lib.hid (show OwnVR w4 (w.heap.size + 2) v4 (leftTo zss cs (q + 1)) by rw [HS.out]; exact o4)
      have zw : w.heap.size + 2 ≤ w3.heap.size := by have := B3.out.size; have := hz.out; omega
      have E1 := Lib.hid (show SBox w4 26 w.heap.size #[.slice A' n' c'] from (b4.block _ (by omega)).trans N1.out)
      have E2 := Lib.hid (show SBox w4 29 (w.heap.size + 1) #[.int .i64 st, .int .i64 ld, .slice A n c] from (b4.block _ (by omega)).trans N2.out)
      have E3 := Lib.hid (N3.out.below b4 (by omega))
      have E4 := Lib.hid (N4.out.below b4 (by omega))
      have E5 := Lib.hid ((hB.out.trans (B3.out.mono (by have := hz.out; omega))).trans (b4.mono (by omega)))
      have E6 := Lib.hid (show w.heap.size + 2 ≤ w4.heap.size by have := b4.size; omega)
      clear o4 b4
      go_wp2_with fail
      go_roundw
      case rel => exact ⟨q + 1, by omega, by go_num, V4.out, E1.out, E2.out, E3.out, E4.out, E5.out, E6.out⟩
      case measure => simp [intOf]; omega
    · obtain rfl : q = 4 := by omega
      go_wp2_with fail
      go_ret
      rw [HV.out]
      exact ⟨_, rfl, by obtain ⟨B, C, o1, o2, o3⟩ := hv.out; exact ⟨B, C, ⟨o1.1, o1.2.imp id fun ⟨g, cap, cur, e, hg, r⟩ => ⟨g, cap, cur, e, by omega, r⟩⟩, fun j hj => ⟨(o2 j hj).1.more (by omega) (Nat.le_refl _), (o2 j hj).2⟩, o3⟩, hB.out⟩
end Go.Proofs.Yteglffbeldlibaa.Lib1
