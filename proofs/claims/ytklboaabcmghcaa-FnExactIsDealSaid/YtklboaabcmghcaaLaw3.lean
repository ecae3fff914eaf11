/- The exact laws of chapter 3, each out of a contract of the program's function (taken as a hypothesis) and the model's. -/
import Derived.Test.YtklboaabcmghcaaS03p
import Derived.Test.YtklboaabcmghcaaS03t
import Derived.Test.YtklboaabcmghcaaDealArg
namespace Go.Proofs.Ytklboaabcmghcaa.Lib1
open Go.RowKit
set_option maxRecDepth 100000

/-- What is asked of the program's functions over a deal. -/
def DealAt (w : World) (lo hi : Nat) (A : Option Addr) (n c : Nat) (zss : List (List Int)) : Prop := RdR w lo hi A n zss ∧ n ≤ c ∧ Plain A c ∧ n ≤ 1048576 ∧ (∀ j, j < n → (zss.getD j []).length ≤ 1048576) ∧ 1 + cnt zss n ≤ 1048576
def ImplDB (f : Nat) (v : List (List Int) → Bool) : Prop := ∀ (A : Option Addr) (n c : Nat) (zss : List (List Int)) (lo hi : Nat) (w : World), DealAt w lo hi A n c zss → Calls Try.prog f #[.agg #[.slice A n c]] w fun e w' => e = .returned (.bool (v zss)) ∧ Chg w w' 0 0
def ImplDI (f : Nat) (v : List (List Int) → Int → Int) : Prop := ∀ (A : Option Addr) (n c : Nat) (x : Int) (zss : List (List Int)) (lo hi : Nat) (w : World), DealAt w lo hi A n c zss → Calls Try.prog f #[.agg #[.slice A n c], .int .i64 x] w (RetI w (v zss x))
def ImplDS (f : Nat) (v : List (List Int) → List Int) : Prop := ∀ (A : Option Addr) (n c : Nat) (zss : List (List Int)) (lo hi : Nat) (w : World), DealAt w lo hi A n c zss → Calls Try.prog f #[.agg #[.slice A n c]] w (RetS w (v zss))
def ImplDT (f : Nat) (v : List (List Int) → List UInt8) : Prop := ∀ (A : Option Addr) (n c : Nat) (zss : List (List Int)) (lo hi : Nat) (w : World), DealAt w lo hi A n c zss → Calls Try.prog f #[.agg #[.slice A n c]] w (RetT w (v zss))
def ImplDD (f : Nat) (v : List (List Int) → List (List Int)) : Prop := ∀ (A : Option Addr) (n c : Nat) (zss : List (List Int)) (lo hi : Nat) (w : World), DealAt w lo hi A n c zss → Calls Try.prog f #[.agg #[.slice A n c]] w (RetD w (v zss))
def ImplDDI (f : Nat) (v : List (List Int) → Int → List (List Int)) (e : List (List Int) → Int → Int) : Prop := ∀ (A : Option Addr) (n c : Nat) (x : Int) (zss : List (List Int)) (lo hi : Nat) (w : World), DealAt w lo hi A n c zss → Calls Try.prog f #[.agg #[.slice A n c], .int .i64 x] w (RetDI w (v zss x) (e zss x))

theorem Sized.le {k v : Int} {n : Nat} {zss : List (List Int)} (h : Sized k n zss v) (hv : 0 ≤ v) (hk : k = 1048576) : n ≤ 1048576 ∧ (∀ j, j < n → (zss.getD j []).length ≤ 1048576) ∧ 1 + cnt zss n ≤ 1048576 := by
  rcases h with e | ⟨_, _, h1, h2, h3⟩
  · omega
  · refine ⟨by omega, fun j hj => by have := h2 j hj; omega, ?_⟩
    rcases Nat.eq_zero_or_pos n with e | e
    · subst e; simp [cnt]
    · omega

set_option maxHeartbeats 1600000 in
theorem law_IsDeal (I : ImplDB 38 dealB) (A : Option Addr) (n c : Nat) (zss : List (List Int)) (w : World) (h : RdR w 0 w.heap.size A n zss) (hL : Lens n zss) :
    Calls Try.prog 11 #[.agg #[.slice A n c]] w fun e w' => e = .returned (.bool true) ∧ Below w.heap.size w w' := by
  have hbx := Lib.hid (box_at w (.slice A n c) 33)
  have ca := Lib.hid (Chg.of_alloc w (.cells #[.slice A n c] 33) 0 0)
  go_enter Try.func11, Try.ntmps11
  go_wp2_with fail
  refine (szDeal A n c 1048576 zss _ _ _ (h.still ca.out) (by omega) (by omega) hL).mono ?_
  rintro e w1 ⟨v, rfl, hv, c1⟩
  have k1 := Lib.hid (ca.out.trans c1)
  have b1 := box_still hbx.out c1
  clear c1
  by_cases hv0 : v < 0
  · go_wp2_with fail
    go_ret
    exact ⟨rfl, k1.out.to_below⟩
  · obtain ⟨hn, hl, hc⟩ := hv.le (by omega) rfl
    have hlt : ¬ v < 0 := hv0
    clear hv
    go_wp2_with fail
    refine (toDeal A n c zss _ _ _ (h.still k1.out) hn hl).mono ?_
    rintro e w2 ⟨g2, rfl, o2, c2⟩
    have k2 := Lib.hid (k1.out.trans c2)
    have b2 := box_still b1 c2
    clear c2 b1
    go_wp2_with fail
    refine (spec_IsDeal _ n n zss _ _ _ o2.rd hl).mono ?_
    rintro e w3 ⟨rfl, c3⟩
    have k3 := Lib.hid (k2.out.trans c3)
    have b3 := box_still b2 c3
    clear c3 b2 o2
    go_wp2_with fail
    refine (toDeal A n c zss _ _ _ (h.still k3.out) hn hl).mono ?_
    rintro e w4 ⟨g4, rfl, o4, c4⟩
    have bx := box_at w4 (.slice (some ⟨g4, 0, none⟩) n n) 36
    have ca4 := Chg.of_alloc w4 (.cells #[.slice (some ⟨g4, 0, none⟩) n n] 36) 0 0
    have k4 := Lib.hid ((k3.out.trans c4).trans ca4)
    have b4 := box_still (box_still b3 c4) ca4
    have o4' := o4.still ca4
    clear c4 b3 o4 ca4
    go_wp2_with fail
    generalize w4.alloc (.cells #[.slice (some ⟨g4, 0, none⟩) n n] 36) = w5 at bx k4 b4 o4'
    refine (I _ n n zss _ _ _ ⟨o4'.rd, Nat.le_refl _, Plain.at_ _ _ _, hn, hl, hc⟩).mono ?_
    rintro e w6 ⟨rfl, c6⟩
    have k6 := Lib.hid (k4.out.trans c6)
    have b6 := box_still b4 c6
    have x6 := box_still bx c6
    have o6 := o4'.still c6
    clear c6 b4 bx o4'
    generalize dealB zss = dz
    have hdz : (dz == dz) = true := by simp
    go_wp2_with fail
    go_region_with (first | (go_at_call 37; refine (toDeal A n c zss _ _ _ ((h.still k6.out).still (Chg.drewN w6 1 0 0)) hn hl).mono ?_; rintro e w7 ⟨g7, rfl, o7, c7⟩; have x7 := box_still x6 ((Chg.drewN w6 1 0 0).trans c7); have o67 := o6.still ((Chg.drewN w6 1 0 0).trans c7)) | (go_at_call 39; refine (eqDeal _ _ n n _ _ zss _ _ _ _ _ o67.rd o7.rd hn hl).mono ?_; rintro e w8 ⟨rfl, c8⟩))
    all_goals
      have k8 := Lib.hid (((k6.out.trans (Chg.drewN w6 1 0 0)).trans c7).trans c8)
      clear c8 c7 x7 o67 o7
      go_wp2_with fail
      go_ret
      exact ⟨rfl, k8.out.to_below⟩
set_option maxHeartbeats 1600000 in
theorem law_HolderOf (I : ImplDI 44 holderV) (A : Option Addr) (n c : Nat) (x : Int) (zss : List (List Int)) (w : World) (h : RdR w 0 w.heap.size A n zss) (hL : Lens n zss) :
    Calls Try.prog 13 #[.agg #[.slice A n c], .int .i64 x] w fun e w' => e = .returned (.bool true) ∧ Below w.heap.size w w' := by
  have hbx := Lib.hid (box_at w (.slice A n c) 33)
  have ca := Lib.hid (Chg.of_alloc w (.cells #[.slice A n c] 33) 0 0)
  go_enter Try.func13, Try.ntmps13
  go_wp2_with fail
  refine (szDeal A n c 1048576 zss _ _ _ (h.still ca.out) (by omega) (by omega) hL).mono ?_
  rintro e w1 ⟨v, rfl, hv, c1⟩
  have k1 := Lib.hid (ca.out.trans c1)
  have b1 := box_still hbx.out c1
  clear c1
  by_cases hv0 : v < 0
  · go_wp2_with fail
    go_ret
    exact ⟨rfl, k1.out.to_below⟩
  · obtain ⟨hn, hl, hc⟩ := hv.le (by omega) rfl
    have hlt : ¬ v < 0 := hv0
    clear hv
    go_wp2_with fail
    refine (toDeal A n c zss _ _ _ (h.still k1.out) hn hl).mono ?_
    rintro e w2 ⟨g2, rfl, o2, c2⟩
    have k2 := Lib.hid (k1.out.trans c2)
    have b2 := box_still b1 c2
    clear c2 b1
    go_wp2_with fail
    refine (spec_HolderOf _ n n x zss _ _ _ o2.rd hn hl).mono ?_
    rintro e w3 ⟨rfl, c3⟩
    have k3 := Lib.hid (k2.out.trans c3)
    have b3 := box_still b2 c3
    clear c3 b2 o2
    go_wp2_with fail
    refine (toDeal A n c zss _ _ _ (h.still k3.out) hn hl).mono ?_
    rintro e w4 ⟨g4, rfl, o4, c4⟩
    have bx := box_at w4 (.slice (some ⟨g4, 0, none⟩) n n) 36
    have ca4 := Chg.of_alloc w4 (.cells #[.slice (some ⟨g4, 0, none⟩) n n] 36) 0 0
    have k4 := Lib.hid ((k3.out.trans c4).trans ca4)
    have b4 := box_still (box_still b3 c4) ca4
    have o4' := o4.still ca4
    clear c4 b3 o4 ca4
    go_wp2_with fail
    generalize w4.alloc (.cells #[.slice (some ⟨g4, 0, none⟩) n n] 36) = w5 at bx k4 b4 o4'
    refine (I _ n n x zss _ _ _ ⟨o4'.rd, Nat.le_refl _, Plain.at_ _ _ _, hn, hl, hc⟩).mono ?_
    rintro e w6 ⟨rfl, c6⟩
    have k6 := Lib.hid (k4.out.trans c6)
    have b6 := box_still b4 c6
    have x6 := box_still bx c6
    have o6 := o4'.still c6
    clear c6 b4 bx o4'
    generalize holderV zss x = dz
    have hdz : (dz == dz) = true := by simp
    go_wp2_with fail
    go_region_with (first | (go_at_call 37; refine (toDeal A n c zss _ _ _ ((h.still k6.out).still (Chg.drewN w6 1 0 0)) hn hl).mono ?_; rintro e w7 ⟨g7, rfl, o7, c7⟩; have x7 := box_still x6 ((Chg.drewN w6 1 0 0).trans c7); have o67 := o6.still ((Chg.drewN w6 1 0 0).trans c7)) | (go_at_call 39; refine (eqDeal _ _ n n _ _ zss _ _ _ _ _ o67.rd o7.rd hn hl).mono ?_; rintro e w8 ⟨rfl, c8⟩))
    all_goals
      have k8 := Lib.hid (((k6.out.trans (Chg.drewN w6 1 0 0)).trans c7).trans c8)
      clear c8 c7 x7 o67 o7
      go_wp2_with fail
      go_ret
      exact ⟨rfl, k8.out.to_below⟩

set_option maxHeartbeats 1600000 in
theorem law_DealText (I : ImplDT 46 dealText) (A : Option Addr) (n c : Nat) (zss : List (List Int)) (w : World) (h : RdR w 0 w.heap.size A n zss) (hL : Lens n zss) :
    Calls Try.prog 14 #[.agg #[.slice A n c]] w fun e w' => e = .returned (.bool true) ∧ Below w.heap.size w w' := by
  have hbx := Lib.hid (box_at w (.slice A n c) 33)
  have ca := Lib.hid (Chg.of_alloc w (.cells #[.slice A n c] 33) 0 0)
  go_enter Try.func14, Try.ntmps14
  go_wp2_with fail
  refine (szDeal A n c 1048576 zss _ _ _ (h.still ca.out) (by omega) (by omega) hL).mono ?_
  rintro e w1 ⟨v, rfl, hv, c1⟩
  have k1 := Lib.hid (ca.out.trans c1)
  have b1 := box_still hbx.out c1
  clear c1
  by_cases hv0 : v < 0
  · go_wp2_with fail
    go_ret
    exact ⟨rfl, k1.out.to_below⟩
  · obtain ⟨hn, hl, hc⟩ := hv.le (by omega) rfl
    have hlt : ¬ v < 0 := hv0
    clear hv
    go_wp2_with fail
    refine (toDeal A n c zss _ _ _ (h.still k1.out) hn hl).mono ?_
    rintro e w2 ⟨g2, rfl, o2, c2⟩
    have k2 := Lib.hid (k1.out.trans c2)
    have b2 := box_still b1 c2
    clear c2 b1
    go_wp2_with fail
    refine (spec_DealText _ n n zss _ _ _ o2.rd hl).mono ?_
    rintro e w3 ⟨rfl, c3⟩
    have k3 := Lib.hid (k2.out.trans c3)
    have b3 := box_still b2 c3
    clear c3 b2 o2
    go_wp2_with fail
    refine (toDeal A n c zss _ _ _ (h.still k3.out) hn hl).mono ?_
    rintro e w4 ⟨g4, rfl, o4, c4⟩
    have bx := box_at w4 (.slice (some ⟨g4, 0, none⟩) n n) 36
    have ca4 := Chg.of_alloc w4 (.cells #[.slice (some ⟨g4, 0, none⟩) n n] 36) 0 0
    have k4 := Lib.hid ((k3.out.trans c4).trans ca4)
    have b4 := box_still (box_still b3 c4) ca4
    have o4' := o4.still ca4
    clear c4 b3 o4 ca4
    go_wp2_with fail
    generalize w4.alloc (.cells #[.slice (some ⟨g4, 0, none⟩) n n] 36) = w5 at bx k4 b4 o4'
    refine (I _ n n zss _ _ _ ⟨o4'.rd, Nat.le_refl _, Plain.at_ _ _ _, hn, hl, hc⟩).mono ?_
    rintro e w6 ⟨rfl, c6⟩
    have k6 := Lib.hid (k4.out.trans c6)
    have b6 := box_still b4 c6
    have x6 := box_still bx c6
    have o6 := o4'.still c6
    clear c6 b4 bx o4'
    generalize (⟨(dealText zss).toArray⟩ : ByteArray) = dz
    go_wp2_with fail
    go_region_with (first | (go_at_call 37; refine (toDeal A n c zss _ _ _ ((h.still k6.out).still (Chg.drewN w6 1 0 0)) hn hl).mono ?_; rintro e w7 ⟨g7, rfl, o7, c7⟩; have x7 := box_still x6 ((Chg.drewN w6 1 0 0).trans c7); have o67 := o6.still ((Chg.drewN w6 1 0 0).trans c7)) | (go_at_call 39; refine (eqDeal _ _ n n _ _ zss _ _ _ _ _ o67.rd o7.rd hn hl).mono ?_; rintro e w8 ⟨rfl, c8⟩))
    all_goals
      have k8 := Lib.hid (((k6.out.trans (Chg.drewN w6 1 0 0)).trans c7).trans c8)
      clear c8 c7 x7 o67 o7
      go_wp2_with fail
      go_ret
      exact ⟨rfl, k8.out.to_below⟩

/-- The marks begin at 1. -/
theorem markDeal1 (A : Option Addr) (n c : Nat) (zss : List (List Int)) (lo hi : Nat) (w : World) (h : OwnR w lo hi A n zss) (hn : n ≤ 1048576) (hs : 1 + cnt zss n ≤ 1048576) :
    Calls Try.prog 42 #[.agg #[.slice A n c], .int .i64 1] w fun e w' => e = .returned (.int .i64 (1 + (cnt zss n : Int))) ∧ OwnR w' lo hi A n (markedR 1 zss n) ∧ Chg w w' lo hi :=
  (markDeal A n c 1 zss lo hi w h hn hs).mono fun _ _ ⟨he, hr⟩ => ⟨by rw [he]; simp, hr⟩

theorem cell_above {w w' : World} {lo hi : Nat} {a : Addr} {v : Value} (h : w.cell? a = some v) (c : Chg w w' lo hi) (ha : a.block < lo ∨ hi ≤ a.block) : w'.cell? a = some v := by
  rw [World.cell?_of_block (c.block _ (lt_of_cell h) ha)]; exact h

set_option maxHeartbeats 3200000 in
theorem law_CardsOfDeal (I : ImplDS 41 dealCards) (A : Option Addr) (n c : Nat) (zss : List (List Int)) (w : World) (h : RdR w 0 w.heap.size A n zss) (hL : Lens n zss) :
    Calls Try.prog 12 #[.agg #[.slice A n c]] w fun e w' => e = .returned (.bool true) ∧ Below w.heap.size w w' := by
  have hbx := Lib.hid (box_at w (.slice A n c) 33)
  have ca := Lib.hid (Chg.of_alloc w (.cells #[.slice A n c] 33) 0 0)
  have hdl : (dealCards zss).length ≤ 52 := by unfold dealCards; split <;> simp [cardsF_len]
  go_enter Try.func12, Try.ntmps12
  go_wp2_with fail
  refine (szDeal A n c 1048576 zss _ _ _ (h.still ca.out) (by omega) (by omega) hL).mono ?_
  rintro e w1 ⟨v, rfl, hv, c1⟩
  have k1 := Lib.hid (ca.out.trans c1)
  have b1 := box_still hbx.out c1
  have hw1 : w.heap.size < w1.heap.size := lt_of_cell b1
  clear c1
  by_cases hv0 : v < 0
  · go_wp2_with fail
    go_ret
    exact ⟨rfl, k1.out.to_below⟩
  · obtain ⟨hn, hl, hc⟩ := hv.le (by omega) rfl
    have hlt : ¬ v < 0 := hv0
    clear hv
    go_wp2_with fail
    refine (toDeal A n c zss _ _ _ (h.still k1.out) hn hl).mono ?_
    rintro e w2 ⟨g2, rfl, o2, c2⟩
    have k2 := Lib.hid (k1.out.trans c2)
    have b2 := box_still b1 c2
    have z2 := c2.size
    clear c2 b1
    go_wp2_with fail
    refine (spec_CardsOfDeal _ n n zss _ _ _ o2.rd hn hl).mono ?_
    rintro e w3 ⟨W, cw, rfl, _, _, ow, c3⟩
    have k3 := Lib.hid (k2.out.trans c3)
    have b3 := box_still b2 c3
    have z3 := c3.size
    clear c3 b2 o2
    generalize hLL : dealCards zss = L at ow hdl
    have HLL := Lib.hid hLL
    clear hLL
    go_wp2_with fail
    refine (toDeal A n c zss _ _ _ (h.still k3.out) hn hl).mono ?_
    rintro e w4 ⟨g4, rfl, o4, c4⟩
    have bx := box_at w4 (.slice (some ⟨g4, 0, none⟩) n n) 36
    have ca4 := Chg.of_alloc w4 (.cells #[.slice (some ⟨g4, 0, none⟩) n n] 36) 0 0
    have z4 := c4.size
    have z5 : (w4.alloc (.cells #[.slice (some ⟨g4, 0, none⟩) n n] 36)).heap.size = w4.heap.size + 1 := by simp
    have k4 := Lib.hid ((k3.out.trans c4).trans ca4)
    have b4 := box_still (box_still b3 c4) ca4
    have o4' := o4.still ca4
    have ow4 := (ow.still c4).still ca4
    clear c4 b3 o4 ca4 ow
    go_wp2_with fail
    generalize w4.alloc (.cells #[.slice (some ⟨g4, 0, none⟩) n n] 36) = w5 at bx k4 b4 o4' ow4 z5
    refine (I _ n n zss _ _ _ ⟨o4'.rd, Nat.le_refl _, Plain.at_ _ _ _, hn, hl, hc⟩).mono ?_
    rw [HLL.out]
    rintro e w6 ⟨G, cg, rfl, _, _, og, c6⟩
    have k6 := Lib.hid (k4.out.trans c6)
    have b6 := box_still b4 c6
    have x6 := box_still bx c6
    have o6 := o4'.still c6
    have ow6 := ow4.still c6
    have z6 := c6.size
    clear c6 b4 bx o4' ow4
    go_wp2_with fail
    refine (eqInt64S _ _ _ _ _ _ L _ _ _ _ _ og.rd ow6.rd (by omega)).mono ?_
    rintro e w7 ⟨rfl, c7⟩
    have k7 := Lib.hid (k6.out.trans c7)
    have b7 := box_still b6 c7
    have x7 := box_still x6 c7
    have o7 := o6.still c7
    have ow7 := ow6.still c7
    have og7 := og.still c7
    have z7 := c7.size
    clear c7 b6 x6 o6 ow6 og
    go_wp2_with fail
    go_region_with (first | (go_at_call 37; refine (toDeal A n c zss _ _ _ ((h.still k7.out).still (Chg.drewN w7 1 0 0)) hn hl).mono ?_; rintro e w8 ⟨g8, rfl, o8, c8⟩; have d8 := (Chg.drewN w7 1 0 0).trans c8; have x8 := box_still x7 d8; have o78 := o7.still d8) | (go_at_call 39; refine (eqDeal _ _ n n _ _ zss _ _ _ _ _ o78.rd o8.rd hn hl).mono ?_; rintro e w9 ⟨rfl, c9⟩))
    all_goals
      have d9 := d8.trans c9
      have k9 := Lib.hid (k7.out.trans d9)
      have b9 := box_still b7 d9
      have x9 := box_still x7 d9
      have o9 := o7.still d9
      have ow9 := ow7.still d9
      have og9 := og7.still d9
      have z9 := d9.size
      clear d9 d8 c9 c8 x8 o78 o8 b7 x7 o7 ow7 og7
      go_wp2_with fail
      refine (markDeal1 _ n _ zss _ _ _ o9 hn hc).mono ?_
      rintro e w10 ⟨rfl, _, c10⟩
      have b10 := cell_above b9 c10 (.inl (by show w.heap.size < w3.heap.size; omega))
      have ow10 := ow9.chg c10 (.inl (Nat.le_refl _))
      have og10 := og9.chg c10 (.inr (by omega))
      have kB := Lib.hid (Chg.above k9.out.to_below c10 (by omega) (.inl (by omega)))
      have z10 := c10.size
      have hkn : ¬ (1 : Int) + (cnt zss n : Int) < 0 := by omega
      clear c10 b9 x9 o9 ow9 og9
      go_wp2_with fail
      refine (eqInt64S _ _ _ _ _ _ L _ _ _ _ _ og10.rd ow10.rd (by omega)).mono ?_
      rintro e w11 ⟨rfl, c11⟩
      have b11 := box_still b10 c11
      have ow11 := ow10.still c11
      have og11 := og10.still c11
      have kB11 := Lib.hid (Chg.above kB.out c11 (by omega) (.inr rfl))
      have z11 := c11.size
      clear c11 b10 ow10 og10 kB
      go_wp2_with fail
      refine (mark1 _ _ _ L _ _ _ og11 (by omega)).mono ?_
      rintro e w12 ⟨rfl, og12, c12, q12⟩
      have b12 := cell_above b11 c12 (.inl (by show w.heap.size < w5.heap.size; omega))
      have ow12 := ow11.chg c12 (.inl (by omega))
      have kB12 := Lib.hid (Chg.above kB11.out c12 (by omega) (.inl (by omega)))
      have z12 : w11.heap.size ≤ w12.heap.size := by omega
      clear c12 q12 b11 ow11 og11 kB11
      go_wp2_with fail
      refine (held1 _ _ _ _ _ _ og12.rd (by omega)).mono ?_
      rintro e w' ⟨rfl, rfl⟩
      have hLn : ¬ (1 : Int) + (L.length : Int) < 0 := by omega
      go_wp2_with fail
      refine (toDeal A n c zss _ _ _ (h.below kB12.out (Nat.le_refl _)) hn hl).mono ?_
      rintro e w13 ⟨g13, rfl, o13, c13⟩
      have ow13 := ow12.still c13
      have og13 := og12.still c13
      have kB13 := Lib.hid (Chg.above kB12.out c13 (by omega) (.inr rfl))
      have z13 := c13.size
      clear c13 b12 ow12 og12 kB12
      go_wp2_with fail
      refine (I _ n n zss _ _ _ ⟨o13.rd, Nat.le_refl _, Plain.at_ _ _ _, hn, hl, hc⟩).mono ?_
      rw [HLL.out]
      rintro e w14 ⟨K, ck, rfl, _, _, ok, c14⟩
      have ow14 := ow13.still c14
      have og14 := og13.still c14
      have kB14 := Lib.hid (Chg.above kB13.out c14 (by omega) (.inr rfl))
      have z14 := c14.size
      clear c14 o13 ow13 og13 kB13
      go_wp2_with fail
      refine (eqInt64S _ _ _ _ _ _ L _ _ _ _ _ ok.rd ow14.rd (by omega)).mono ?_
      rintro e w15 ⟨rfl, c15⟩
      have og15 := og14.still c15
      have kB15 := Lib.hid (Chg.above kB14.out c15 (by omega) (.inr rfl))
      clear c15 ok ow14 og14 kB14
      go_wp2_with fail
      refine (held1 _ _ _ _ _ _ og15.rd (by omega)).mono ?_
      rintro e w' ⟨rfl, rfl⟩
      go_wp2_with fail
      go_ret
      exact ⟨rfl, kB15.out⟩

end Go.Proofs.Ytklboaabcmghcaa.Lib1
