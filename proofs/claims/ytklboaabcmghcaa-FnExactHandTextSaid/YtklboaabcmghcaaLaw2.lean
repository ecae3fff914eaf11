/- The exact laws of chapter 2, each out of a contract of the program's function (taken as a hypothesis) and the model's. -/
import Derived.Test.YtklboaabcmghcaaS02r
import Derived.Test.YtklboaabcmghcaaDraw2
namespace Go.Proofs.Ytklboaabcmghcaa.Lib1
open Go.RowKit
set_option maxRecDepth 100000

/-- What is asked of a function of the program over one hand: a number, a list, a text; a hand and a number. -/
def ImplI (f : Nat) (v : List Int → Int) : Prop := ∀ (A : Option Addr) (n c : Nat) (zs : List Int) (lo hi : Nat) (w : World), Rd w lo hi A n zs → n ≤ 1048576 → n ≤ c → Plain A c → Calls Try.prog f #[.slice A n c] w (RetI w (v zs))
def ImplI1 (f : Nat) (v : List Int → Int → Int) : Prop := ∀ (A : Option Addr) (n c : Nat) (t : Int) (zs : List Int) (lo hi : Nat) (w : World), Rd w lo hi A n zs → n ≤ 1048576 → n ≤ c → Plain A c → Calls Try.prog f #[.slice A n c, .int .i64 t] w (RetI w (v zs t))
def ImplS (f : Nat) (v : List Int → List Int) : Prop := ∀ (A : Option Addr) (n c : Nat) (zs : List Int) (lo hi : Nat) (w : World), Rd w lo hi A n zs → n ≤ 1048576 → n ≤ c → Plain A c → Calls Try.prog f #[.slice A n c] w (RetS w (v zs))
def ImplT (f : Nat) (v : List Int → List UInt8) : Prop := ∀ (A : Option Addr) (n c : Nat) (zs : List Int) (lo hi : Nat) (w : World), Rd w lo hi A n zs → n ≤ 1048576 → n ≤ c → Plain A c → Calls Try.prog f #[.slice A n c] w (RetT w (v zs))
def ImplR (f : Nat) : Prop := ∀ (s : ByteArray) (w : World), s.size ≤ 1048576 → Calls Try.prog f #[.string s] w (RetSB w (readV s.data.toList) (readB s.data.toList))

theorem shapeV_le (zs : List Int) : (shapeV zs).length ≤ 4 := by unfold shapeV; split <;> simp [shapeF]
theorem patternV_le (zs : List Int) : (patternV zs).length ≤ 4 := by unfold patternV; split <;> simp [downF_length, shapeF]

set_option maxHeartbeats 1000000 in
theorem law_HighCardPoints (I : ImplI 24 hcpV) (A : Option Addr) (n c : Nat) (zs : List Int) (lo hi : Nat) (w : World) (h : Rd w lo hi A n zs) :
    Calls Try.prog 5 #[.slice A n c] w fun e w' => e = .returned (.bool true) ∧ Below w.heap.size w w' := by
  by_cases hn : n ≤ 1048576
  · have hb : ¬ (1048576 : Int) < (n : Int) := by omega
    go_enter Try.func5, Try.ntmps5
    go_wp2_with fail
    refine (toInt64S A n c zs lo hi _ h hn).mono ?_
    rintro e w1 ⟨rfl, o1, c1⟩
    go_wp2_with fail
    refine (spec_HighCardPoints _ n n zs _ _ _ o1.rd hn).mono ?_
    rintro e w2 ⟨rfl, c2⟩
    have r2 := (h.still c1).still c2
    go_wp2_with fail
    refine (toInt64S A n c zs lo hi _ r2 hn).mono ?_
    rintro e w3 ⟨rfl, o3, c3⟩
    have r3 := r2.still c3
    go_wp2_with fail
    refine (I _ n n zs _ _ _ o3.rd hn (Nat.le_refl _) (Plain.at_ _ _ _)).mono ?_
    rintro e w4 ⟨rfl, c4⟩
    have r4 := r3.still c4
    have o4 := o3.still c4
    go_wp2_with fail
    refine (toInt64S A n c zs lo hi _ r4 hn).mono ?_
    rintro e w5 ⟨rfl, o5, c5⟩
    go_wp2_with fail
    refine (eqInt64S _ _ n n n n zs _ _ _ _ _ (o4.rd.still c5) o5.rd hn).mono ?_
    rintro e w6 ⟨rfl, c6⟩
    go_wp2_with fail
    go_ret
    exact ⟨rfl, (((((c1.trans c2).trans c3).trans c4).trans c5).trans c6).to_below⟩
  · have hb : (1048576 : Int) < (n : Int) := by omega
    go_enter Try.func5, Try.ntmps5
    go_wp2
    go_ret
    exact ⟨rfl, Below.refl _ _⟩

set_option maxHeartbeats 1000000 in
theorem law_ControlsOf (I : ImplI 26 ctrlV) (A : Option Addr) (n c : Nat) (zs : List Int) (lo hi : Nat) (w : World) (h : Rd w lo hi A n zs) :
    Calls Try.prog 6 #[.slice A n c] w fun e w' => e = .returned (.bool true) ∧ Below w.heap.size w w' := by
  by_cases hn : n ≤ 1048576
  · have hb : ¬ (1048576 : Int) < (n : Int) := by omega
    go_enter Try.func6, Try.ntmps6
    go_wp2_with fail
    refine (toInt64S A n c zs lo hi _ h hn).mono ?_
    rintro e w1 ⟨rfl, o1, c1⟩
    go_wp2_with fail
    refine (spec_ControlsOf _ n n zs _ _ _ o1.rd hn).mono ?_
    rintro e w2 ⟨rfl, c2⟩
    have r2 := (h.still c1).still c2
    go_wp2_with fail
    refine (toInt64S A n c zs lo hi _ r2 hn).mono ?_
    rintro e w3 ⟨rfl, o3, c3⟩
    have r3 := r2.still c3
    go_wp2_with fail
    refine (I _ n n zs _ _ _ o3.rd hn (Nat.le_refl _) (Plain.at_ _ _ _)).mono ?_
    rintro e w4 ⟨rfl, c4⟩
    have r4 := r3.still c4
    have o4 := o3.still c4
    go_wp2_with fail
    refine (toInt64S A n c zs lo hi _ r4 hn).mono ?_
    rintro e w5 ⟨rfl, o5, c5⟩
    go_wp2_with fail
    refine (eqInt64S _ _ n n n n zs _ _ _ _ _ (o4.rd.still c5) o5.rd hn).mono ?_
    rintro e w6 ⟨rfl, c6⟩
    go_wp2_with fail
    go_ret
    exact ⟨rfl, (((((c1.trans c2).trans c3).trans c4).trans c5).trans c6).to_below⟩
  · have hb : (1048576 : Int) < (n : Int) := by omega
    go_enter Try.func6, Try.ntmps6
    go_wp2
    go_ret
    exact ⟨rfl, Below.refl _ _⟩

set_option maxHeartbeats 1000000 in
theorem law_LosersOf (I : ImplI 28 losersV) (A : Option Addr) (n c : Nat) (zs : List Int) (lo hi : Nat) (w : World) (h : Rd w lo hi A n zs) :
    Calls Try.prog 7 #[.slice A n c] w fun e w' => e = .returned (.bool true) ∧ Below w.heap.size w w' := by
  by_cases hn : n ≤ 1048576
  · have hb : ¬ (1048576 : Int) < (n : Int) := by omega
    go_enter Try.func7, Try.ntmps7
    go_wp2_with fail
    refine (toInt64S A n c zs lo hi _ h hn).mono ?_
    rintro e w1 ⟨rfl, o1, c1⟩
    go_wp2_with fail
    refine (spec_LosersOf _ n n zs _ _ _ o1.rd hn).mono ?_
    rintro e w2 ⟨rfl, c2⟩
    have r2 := (h.still c1).still c2
    go_wp2_with fail
    refine (toInt64S A n c zs lo hi _ r2 hn).mono ?_
    rintro e w3 ⟨rfl, o3, c3⟩
    have r3 := r2.still c3
    go_wp2_with fail
    refine (I _ n n zs _ _ _ o3.rd hn (Nat.le_refl _) (Plain.at_ _ _ _)).mono ?_
    rintro e w4 ⟨rfl, c4⟩
    have r4 := r3.still c4
    have o4 := o3.still c4
    go_wp2_with fail
    refine (toInt64S A n c zs lo hi _ r4 hn).mono ?_
    rintro e w5 ⟨rfl, o5, c5⟩
    go_wp2_with fail
    refine (eqInt64S _ _ n n n n zs _ _ _ _ _ (o4.rd.still c5) o5.rd hn).mono ?_
    rintro e w6 ⟨rfl, c6⟩
    go_wp2_with fail
    go_ret
    exact ⟨rfl, (((((c1.trans c2).trans c3).trans c4).trans c5).trans c6).to_below⟩
  · have hb : (1048576 : Int) < (n : Int) := by omega
    go_enter Try.func7, Try.ntmps7
    go_wp2
    go_ret
    exact ⟨rfl, Below.refl _ _⟩

set_option maxHeartbeats 1000000 in
theorem law_QuickTricks (I : ImplI 30 quickV) (A : Option Addr) (n c : Nat) (zs : List Int) (lo hi : Nat) (w : World) (h : Rd w lo hi A n zs) :
    Calls Try.prog 8 #[.slice A n c] w fun e w' => e = .returned (.bool true) ∧ Below w.heap.size w w' := by
  by_cases hn : n ≤ 1048576
  · have hb : ¬ (1048576 : Int) < (n : Int) := by omega
    go_enter Try.func8, Try.ntmps8
    go_wp2_with fail
    refine (toInt64S A n c zs lo hi _ h hn).mono ?_
    rintro e w1 ⟨rfl, o1, c1⟩
    go_wp2_with fail
    refine (spec_QuickTricks _ n n zs _ _ _ o1.rd hn).mono ?_
    rintro e w2 ⟨rfl, c2⟩
    have r2 := (h.still c1).still c2
    go_wp2_with fail
    refine (toInt64S A n c zs lo hi _ r2 hn).mono ?_
    rintro e w3 ⟨rfl, o3, c3⟩
    have r3 := r2.still c3
    go_wp2_with fail
    refine (I _ n n zs _ _ _ o3.rd hn (Nat.le_refl _) (Plain.at_ _ _ _)).mono ?_
    rintro e w4 ⟨rfl, c4⟩
    have r4 := r3.still c4
    have o4 := o3.still c4
    go_wp2_with fail
    refine (toInt64S A n c zs lo hi _ r4 hn).mono ?_
    rintro e w5 ⟨rfl, o5, c5⟩
    go_wp2_with fail
    refine (eqInt64S _ _ n n n n zs _ _ _ _ _ (o4.rd.still c5) o5.rd hn).mono ?_
    rintro e w6 ⟨rfl, c6⟩
    go_wp2_with fail
    go_ret
    exact ⟨rfl, (((((c1.trans c2).trans c3).trans c4).trans c5).trans c6).to_below⟩
  · have hb : (1048576 : Int) < (n : Int) := by omega
    go_enter Try.func8, Try.ntmps8
    go_wp2
    go_ret
    exact ⟨rfl, Below.refl _ _⟩

set_option maxHeartbeats 1000000 in
theorem law_HonorsOf (I : ImplI1 32 honV) (A : Option Addr) (n c : Nat) (t : Int) (zs : List Int) (lo hi : Nat) (w : World) (h : Rd w lo hi A n zs) :
    Calls Try.prog 9 #[.slice A n c, .int .i64 t] w fun e w' => e = .returned (.bool true) ∧ Below w.heap.size w w' := by
  by_cases hn : n ≤ 1048576
  · have hb : ¬ (1048576 : Int) < (n : Int) := by omega
    go_enter Try.func9, Try.ntmps9
    go_wp2_with fail
    refine (toInt64S A n c zs lo hi _ h hn).mono ?_
    rintro e w1 ⟨rfl, o1, c1⟩
    go_wp2_with fail
    refine (spec_HonorsOf _ n n t zs _ _ _ o1.rd hn).mono ?_
    rintro e w2 ⟨rfl, c2⟩
    have r2 := (h.still c1).still c2
    go_wp2_with fail
    refine (toInt64S A n c zs lo hi _ r2 hn).mono ?_
    rintro e w3 ⟨rfl, o3, c3⟩
    have r3 := r2.still c3
    go_wp2_with fail
    refine (I _ n n t zs _ _ _ o3.rd hn (Nat.le_refl _) (Plain.at_ _ _ _)).mono ?_
    rintro e w4 ⟨rfl, c4⟩
    have r4 := r3.still c4
    have o4 := o3.still c4
    go_wp2_with fail
    refine (toInt64S A n c zs lo hi _ r4 hn).mono ?_
    rintro e w5 ⟨rfl, o5, c5⟩
    go_wp2_with fail
    refine (eqInt64S _ _ n n n n zs _ _ _ _ _ (o4.rd.still c5) o5.rd hn).mono ?_
    rintro e w6 ⟨rfl, c6⟩
    go_wp2_with fail
    go_ret
    exact ⟨rfl, (((((c1.trans c2).trans c3).trans c4).trans c5).trans c6).to_below⟩
  · have hb : (1048576 : Int) < (n : Int) := by omega
    go_enter Try.func9, Try.ntmps9
    go_wp2
    go_ret
    exact ⟨rfl, Below.refl _ _⟩

set_option maxHeartbeats 1000000 in
theorem law_HandText (I : ImplT 34 handText) (A : Option Addr) (n c : Nat) (zs : List Int) (lo hi : Nat) (w : World) (h : Rd w lo hi A n zs) :
    Calls Try.prog 10 #[.slice A n c] w fun e w' => e = .returned (.bool true) ∧ Below w.heap.size w w' := by
  by_cases hn : n ≤ 1048576
  · have hb : ¬ (1048576 : Int) < (n : Int) := by omega
    go_enter Try.func10, Try.ntmps10
    go_wp2_with fail
    refine (toInt64S A n c zs lo hi _ h hn).mono ?_
    rintro e w1 ⟨rfl, o1, c1⟩
    go_wp2_with fail
    refine (spec_HandText _ n n zs _ _ _ o1.rd hn).mono ?_
    rintro e w2 ⟨rfl, c2⟩
    have r2 := (h.still c1).still c2
    go_wp2_with fail
    refine (toInt64S A n c zs lo hi _ r2 hn).mono ?_
    rintro e w3 ⟨rfl, o3, c3⟩
    have r3 := r2.still c3
    go_wp2_with fail
    refine (I _ n n zs _ _ _ o3.rd hn (Nat.le_refl _) (Plain.at_ _ _ _)).mono ?_
    rintro e w4 ⟨rfl, c4⟩
    have r4 := r3.still c4
    have o4 := o3.still c4
    go_wp2_with fail
    refine (toInt64S A n c zs lo hi _ r4 hn).mono ?_
    rintro e w5 ⟨rfl, o5, c5⟩
    go_wp2_with fail
    refine (eqInt64S _ _ n n n n zs _ _ _ _ _ (o4.rd.still c5) o5.rd hn).mono ?_
    rintro e w6 ⟨rfl, c6⟩
    go_wp2_with fail
    go_ret
    exact ⟨rfl, (((((c1.trans c2).trans c3).trans c4).trans c5).trans c6).to_below⟩
  · have hb : (1048576 : Int) < (n : Int) := by omega
    go_enter Try.func10, Try.ntmps10
    go_wp2
    go_ret
    exact ⟨rfl, Below.refl _ _⟩

set_option maxHeartbeats 1600000 in
theorem law_ShapeOf (I : ImplS 17 shapeV) (A : Option Addr) (n c : Nat) (zs : List Int) (w : World) (h : Rd w 0 w.heap.size A n zs) :
    Calls Try.prog 3 #[.slice A n c] w fun e w' => e = .returned (.bool true) ∧ Below w.heap.size w w' := by
  by_cases hn : n ≤ 1048576
  · have hb : ¬ (1048576 : Int) < (n : Int) := by omega
    have hm : (shapeV zs).length ≤ 1048576 := by have := shapeV_le zs; omega
    go_enter Try.func3, Try.ntmps3
    go_wp2_with fail
    refine (toInt64S A n c zs _ _ _ h hn).mono ?_
    rintro e w1 ⟨rfl, o1, c1⟩
    go_wp2_with fail
    refine (spec_ShapeOf _ n n zs _ _ _ o1.rd hn).mono ?_
    rintro e w2 ⟨W, cw, rfl, _, _, ow, c2⟩
    have h2 := (h.still c1).still c2
    have b2 := c1.trans c2
    go_wp2_with fail
    refine (toInt64S A n c zs _ _ _ h2 hn).mono ?_
    rintro e w3 ⟨rfl, ox, c3⟩
    have h3 := h2.still c3
    have ow3 := ow.still c3
    have b3 := b2.trans c3
    go_wp2_with fail
    refine (I _ n n zs _ _ _ ox.rd hn (Nat.le_refl _) (Plain.at_ _ _ _)).mono ?_
    rintro e w4 ⟨G, cg, rfl, _, _, og, c4⟩
    have h4 := h3.still c4
    have ow4 := ow3.still c4
    have ox4 := ox.still c4
    have b4 := b3.trans c4
    go_wp2_with fail
    refine (eqInt64S _ _ _ _ _ _ (shapeV zs) _ _ _ _ _ og.rd ow4.rd hm).mono ?_
    rintro e w5 ⟨rfl, c5⟩
    have h5 := h4.still c5
    have ow5 := ow4.still c5
    have ox5 := ox4.still c5
    have og5 := og.still c5
    have b5 := b4.trans c5
    go_wp2_with fail
    refine (toInt64S A n c zs _ _ _ h5 hn).mono ?_
    rintro e w6 ⟨rfl, oy, c6⟩
    have h6 := h5.still c6
    have ow6 := ow5.still c6
    have ox6 := ox5.still c6
    have og6 := og5.still c6
    have b6 := b5.trans c6
    go_wp2_with fail
    refine (eqInt64S _ _ n n n n zs _ _ _ _ _ ox6.rd oy.rd hn).mono ?_
    rintro e w7 ⟨rfl, c7⟩
    have h7 := h6.still c7
    have ow7 := ow6.still c7
    have ox7 := ox6.still c7
    have og7 := og6.still c7
    have b7 := (b6.trans c7).to_below
    have t2 := c2.size
    have t3 := c3.size
    have t4 := c4.size
    have t1 := c1.size
    have t7 := (c5.trans (c6.trans c7)).size
    clear h h2 h3 h4 h5 h6 ow ow3 ow4 ow5 ow6 ox ox4 ox5 ox6 og og5 og6 c1 c2 c3 c4 c5 c6 c7 b2 b3 b4 b5 b6 o1 oy
    go_wp2_with fail
    refine (mark1 _ n n zs _ _ _ ox7 hn).mono ?_
    rintro e w8 ⟨rfl, _, c8, z8⟩
    have h8 := h7.chg c8 (by omega)
    have ow8 := ow7.chg c8 (by omega)
    have og8 := og7.chg c8 (by omega)
    have b8 := Chg.above b7 c8 (by omega) (by omega)
    have t8 : w7.heap.size ≤ w8.heap.size := by omega
    clear z8 c8 h7 ow7 og7 ox7 b7
    go_wp2_with fail
    refine (eqInt64S _ _ _ _ _ _ (shapeV zs) _ _ _ _ _ og8.rd ow8.rd hm).mono ?_
    rintro e w9 ⟨rfl, c9⟩
    have h9 := h8.still c9
    have ow9 := ow8.still c9
    have og9 := og8.still c9
    have b9 := Chg.above b8 c9 (by omega) (by omega)
    have t9 := c9.size
    clear c9 h8 ow8 og8 b8
    go_wp2_with fail
    refine (mark1 _ _ _ (shapeV zs) _ _ _ og9 hm).mono ?_
    rintro e w10 ⟨rfl, og10, c10, z10⟩
    have h10 := h9.chg c10 (by omega)
    have ow10 := ow9.chg c10 (by omega)
    have b10 := Chg.above b9 c10 (by omega) (by omega)
    have t10 : w9.heap.size ≤ w10.heap.size := by omega
    clear z10 c10 h9 ow9 og9 b9
    go_wp2_with fail
    refine (held1 _ _ _ _ _ _ og10.rd hm).mono ?_
    rintro e w' ⟨rfl, rfl⟩
    go_wp2_with fail
    refine (toInt64S A n c zs _ _ _ h10 hn).mono ?_
    rintro e w11 ⟨rfl, oz, c11⟩
    have ow11 := ow10.still c11
    have og11 := og10.still c11
    have b11 := Chg.above b10 c11 (by omega) (by omega)
    have t11 := c11.size
    clear c11 h10 ow10 og10 b10
    go_wp2_with fail
    refine (I _ n n zs _ _ _ oz.rd hn (Nat.le_refl _) (Plain.at_ _ _ _)).mono ?_
    rintro e w12 ⟨K, ck, rfl, _, _, ok, c12⟩
    have ow12 := ow11.still c12
    have og12 := og11.still c12
    have b12 := Chg.above b11 c12 (by omega) (by omega)
    have t12 := c12.size
    clear c12 ow11 og11 b11 oz
    go_wp2_with fail
    refine (eqInt64S _ _ _ _ _ _ (shapeV zs) _ _ _ _ _ ok.rd ow12.rd hm).mono ?_
    rintro e w13 ⟨rfl, c13⟩
    have og13 := og12.still c13
    have b13 := Chg.above b12 c13 (by omega) (by omega)
    clear c13 ow12 og12 b12 ok
    go_wp2_with fail
    refine (held1 _ _ _ _ _ _ og13.rd hm).mono ?_
    rintro e w' ⟨rfl, rfl⟩
    go_wp2_with fail
    go_ret
    exact ⟨rfl, b13⟩
  · have hb : (1048576 : Int) < (n : Int) := by omega
    go_enter Try.func3, Try.ntmps3
    go_wp2
    go_ret
    exact ⟨rfl, Below.refl _ _⟩

set_option maxHeartbeats 1600000 in
theorem law_PatternOf (I : ImplS 22 patternV) (A : Option Addr) (n c : Nat) (zs : List Int) (w : World) (h : Rd w 0 w.heap.size A n zs) :
    Calls Try.prog 4 #[.slice A n c] w fun e w' => e = .returned (.bool true) ∧ Below w.heap.size w w' := by
  by_cases hn : n ≤ 1048576
  · have hb : ¬ (1048576 : Int) < (n : Int) := by omega
    have hm : (patternV zs).length ≤ 1048576 := by have := patternV_le zs; omega
    go_enter Try.func4, Try.ntmps4
    go_wp2_with fail
    refine (toInt64S A n c zs _ _ _ h hn).mono ?_
    rintro e w1 ⟨rfl, o1, c1⟩
    go_wp2_with fail
    refine (spec_PatternOf _ n n zs _ _ _ o1.rd hn).mono ?_
    rintro e w2 ⟨W, cw, rfl, _, _, ow, c2⟩
    have h2 := (h.still c1).still c2
    have b2 := c1.trans c2
    go_wp2_with fail
    refine (toInt64S A n c zs _ _ _ h2 hn).mono ?_
    rintro e w3 ⟨rfl, ox, c3⟩
    have h3 := h2.still c3
    have ow3 := ow.still c3
    have b3 := b2.trans c3
    go_wp2_with fail
    refine (I _ n n zs _ _ _ ox.rd hn (Nat.le_refl _) (Plain.at_ _ _ _)).mono ?_
    rintro e w4 ⟨G, cg, rfl, _, _, og, c4⟩
    have h4 := h3.still c4
    have ow4 := ow3.still c4
    have ox4 := ox.still c4
    have b4 := b3.trans c4
    go_wp2_with fail
    refine (eqInt64S _ _ _ _ _ _ (patternV zs) _ _ _ _ _ og.rd ow4.rd hm).mono ?_
    rintro e w5 ⟨rfl, c5⟩
    have h5 := h4.still c5
    have ow5 := ow4.still c5
    have ox5 := ox4.still c5
    have og5 := og.still c5
    have b5 := b4.trans c5
    go_wp2_with fail
    refine (toInt64S A n c zs _ _ _ h5 hn).mono ?_
    rintro e w6 ⟨rfl, oy, c6⟩
    have h6 := h5.still c6
    have ow6 := ow5.still c6
    have ox6 := ox5.still c6
    have og6 := og5.still c6
    have b6 := b5.trans c6
    go_wp2_with fail
    refine (eqInt64S _ _ n n n n zs _ _ _ _ _ ox6.rd oy.rd hn).mono ?_
    rintro e w7 ⟨rfl, c7⟩
    have h7 := h6.still c7
    have ow7 := ow6.still c7
    have ox7 := ox6.still c7
    have og7 := og6.still c7
    have b7 := (b6.trans c7).to_below
    have t2 := c2.size
    have t3 := c3.size
    have t4 := c4.size
    have t1 := c1.size
    have t7 := (c5.trans (c6.trans c7)).size
    clear h h2 h3 h4 h5 h6 ow ow3 ow4 ow5 ow6 ox ox4 ox5 ox6 og og5 og6 c1 c2 c3 c4 c5 c6 c7 b2 b3 b4 b5 b6 o1 oy
    go_wp2_with fail
    refine (mark1 _ n n zs _ _ _ ox7 hn).mono ?_
    rintro e w8 ⟨rfl, _, c8, z8⟩
    have h8 := h7.chg c8 (by omega)
    have ow8 := ow7.chg c8 (by omega)
    have og8 := og7.chg c8 (by omega)
    have b8 := Chg.above b7 c8 (by omega) (by omega)
    have t8 : w7.heap.size ≤ w8.heap.size := by omega
    clear z8 c8 h7 ow7 og7 ox7 b7
    go_wp2_with fail
    refine (eqInt64S _ _ _ _ _ _ (patternV zs) _ _ _ _ _ og8.rd ow8.rd hm).mono ?_
    rintro e w9 ⟨rfl, c9⟩
    have h9 := h8.still c9
    have ow9 := ow8.still c9
    have og9 := og8.still c9
    have b9 := Chg.above b8 c9 (by omega) (by omega)
    have t9 := c9.size
    clear c9 h8 ow8 og8 b8
    go_wp2_with fail
    refine (mark1 _ _ _ (patternV zs) _ _ _ og9 hm).mono ?_
    rintro e w10 ⟨rfl, og10, c10, z10⟩
    have h10 := h9.chg c10 (by omega)
    have ow10 := ow9.chg c10 (by omega)
    have b10 := Chg.above b9 c10 (by omega) (by omega)
    have t10 : w9.heap.size ≤ w10.heap.size := by omega
    clear z10 c10 h9 ow9 og9 b9
    go_wp2_with fail
    refine (held1 _ _ _ _ _ _ og10.rd hm).mono ?_
    rintro e w' ⟨rfl, rfl⟩
    go_wp2_with fail
    refine (toInt64S A n c zs _ _ _ h10 hn).mono ?_
    rintro e w11 ⟨rfl, oz, c11⟩
    have ow11 := ow10.still c11
    have og11 := og10.still c11
    have b11 := Chg.above b10 c11 (by omega) (by omega)
    have t11 := c11.size
    clear c11 h10 ow10 og10 b10
    go_wp2_with fail
    refine (I _ n n zs _ _ _ oz.rd hn (Nat.le_refl _) (Plain.at_ _ _ _)).mono ?_
    rintro e w12 ⟨K, ck, rfl, _, _, ok, c12⟩
    have ow12 := ow11.still c12
    have og12 := og11.still c12
    have b12 := Chg.above b11 c12 (by omega) (by omega)
    have t12 := c12.size
    clear c12 ow11 og11 b11 oz
    go_wp2_with fail
    refine (eqInt64S _ _ _ _ _ _ (patternV zs) _ _ _ _ _ ok.rd ow12.rd hm).mono ?_
    rintro e w13 ⟨rfl, c13⟩
    have og13 := og12.still c13
    have b13 := Chg.above b12 c13 (by omega) (by omega)
    clear c13 ow12 og12 b12 ok
    go_wp2_with fail
    refine (held1 _ _ _ _ _ _ og13.rd hm).mono ?_
    rintro e w' ⟨rfl, rfl⟩
    go_wp2_with fail
    go_ret
    exact ⟨rfl, b13⟩
  · have hb : (1048576 : Int) < (n : Int) := by omega
    go_enter Try.func4, Try.ntmps4
    go_wp2
    go_ret
    exact ⟨rfl, Below.refl _ _⟩

end Go.Proofs.Ytklboaabcmghcaa.Lib1
