/- Chapter 8, the program: a chain of tricks started, a card added, whose turn. (Written by wip/gen8k.py.) -/
import Derived.Test.YteglffbeldlibaaPq8
import Derived.Test.YteglffbeldlibaaStep7
namespace Go.Proofs.Yteglffbeldlibaa.Lib1
open Go.RowKit
set_option maxRecDepth 100000

theorem setCell_size8 (w : World) (g i : Nat) (u : Value) : (w.setCell ⟨g, i, none⟩ u).heap.size = w.heap.size := by simp [World.setCell]
theorem OwnV.cell8 {w : World} {base g i : Nat} {v : Value} {zs : List Int} (h : OwnV w base v zs) (u : Value) (hg : g < base) : OwnV (w.setCell ⟨g, i, none⟩ u) base v zs :=
  h.chg ((Chg.refl w g base).store (Nat.le_refl _) hg u) (Nat.le_refl _)
/-- Below bs nothing but the blocks am and c has turned. -/
structure Kp (bs am c : Nat) (w w' : World) : Prop where
  os : w'.os = w.os
  tape : w'.tape = w.tape
  output : w'.output = w.output
  size : w.heap.size ≤ w'.heap.size
  block : ∀ k, k < bs → k ≠ am → k ≠ c → w'.heap[k]? = w.heap[k]?
theorem Kp.refl (bs am c : Nat) (w : World) : Kp bs am c w w := ⟨rfl, rfl, rfl, Nat.le_refl _, fun _ _ _ _ => rfl⟩
theorem Kp.still {bs am c : Nat} {a w w' : World} (h : Kp bs am c a w) (k : Chg w w' 0 0) (hb : bs ≤ a.heap.size := by assumption) : Kp bs am c a w' :=
  ⟨k.os.trans h.os, k.tape.trans h.tape, k.output.trans h.output, Nat.le_trans h.size k.size, fun i hi h1 h2 => (k.block i (by have := h.size; omega) (.inr (Nat.zero_le _))).trans (h.block i hi h1 h2)⟩
theorem Kp.below {bs am c : Nat} {a w w' : World} (h : Kp bs am c a w) (k : Below bs w w') : Kp bs am c a w' :=
  ⟨k.os.trans h.os, k.tape.trans h.tape, k.output.trans h.output, Nat.le_trans h.size k.size, fun i hi h1 h2 => (k.block i hi).trans (h.block i hi h1 h2)⟩
theorem Kp.store1 {bs am c : Nat} {a w : World} (h : Kp bs am c a w) (i : Nat) (u : Value) : Kp bs am c a (w.setCell ⟨am, i, none⟩ u) :=
  ⟨h.os, h.tape, h.output, by rw [setCell_size8]; exact h.size, fun k hk h1 h2 => (set_otherS w am k i u h1).trans (h.block k hk h1 h2)⟩
theorem Kp.store2 {bs am c : Nat} {a w : World} (h : Kp bs am c a w) (i : Nat) (u : Value) : Kp bs am c a (w.setCell ⟨c, i, none⟩ u) :=
  ⟨h.os, h.tape, h.output, by rw [setCell_size8]; exact h.size, fun k hk h1 h2 => (set_otherS w c k i u h2).trans (h.block k hk h1 h2)⟩
theorem bldT8 (x : Int) : Try.prog.built 118 [(0, .int .i64 x)] = some #[.int .i64 x, .slice none 0 0, .pointer none] := by kernel_rfl

set_option maxHeartbeats 8000000 in
/-- A card is added to the last trick. -/
theorem addT8 (c am : Nat) (p0 : Value) (ld st x : Int) (A : Option Addr) (n cp : Nat) (zs : List Int) (bb sb bs : Nat) (w : World) (hK : KBox w c p0 (.pointer (some ⟨am, 0, none⟩)) (.func (.func 172) #[] #[.pointer (some ⟨bb, 0, none⟩)])) (hT : TBox w am ld (.slice A n cp) (.pointer none)) (hW : WinV w st bb sb) (hO : OwnV w bs (.slice A n cp) zs)
    (hlen : zs.length = n) (hn : n < 4) (ham : am < bs) (hc : c < bs) (hbb : bb < bs) (hsb : sb < bs) (hbs : bs ≤ w.heap.size) (hx : 0 ≤ x ∧ x ≤ 51) (hz : ∀ j, j < n → 0 ≤ zs.getD j 0 ∧ zs.getD j 0 ≤ 51) (hl : 0 ≤ ld ∧ ld ≤ 3) :
    Calls Try.prog 133 #[.pointer (some ⟨c, 0, none⟩), .int .i64 x] w fun e w' => e = .returned (.tuple #[]) ∧ Kp bs am c w w' ∧ WinV w' st bb sb ∧ ∃ v', OwnV w' bs v' (zs ++ [x]) ∧
      (n + 1 < 4 → TBox w' am ld v' (.pointer none) ∧ KBox w' c p0 (.pointer (some ⟨am, 0, none⟩)) (.func (.func 172) #[] #[.pointer (some ⟨bb, 0, none⟩)])) ∧
      (n + 1 = 4 → ∃ a', w.heap.size ≤ a' ∧ a' < w'.heap.size ∧ TBox w' am ld v' (.pointer (some ⟨a', 0, none⟩)) ∧ TBox w' a' (winV st ld (fun i => (zs ++ [x]).getD i 0) 4) (.slice none 0 0) (.pointer none) ∧ KBox w' c p0 (.pointer (some ⟨a', 0, none⟩)) (.func (.func 172) #[] #[.pointer (some ⟨bb, 0, none⟩)])) := by
  have hlen1 : (zs ++ [x]).length = n + 1 := by rw [List.length_append, hlen]; rfl
  have hz1 : ∀ j, j < n + 1 → 0 ≤ (zs ++ [x]).getD j 0 ∧ (zs ++ [x]).getD j 0 ≤ 51 := fun j hj => by
    by_cases e : j < n
    · rw [show (zs ++ [x]).getD j 0 = zs.getD j 0 by simp [List.getD, List.getElem?_append_left (show j < zs.length by omega)]]; exact hz j e
    · have e : j = zs.length := by omega
      subst e
      rw [show (zs ++ [x]).getD zs.length 0 = x by simp [List.getD]]; exact hx
  have hlen0 : zs.length ≤ 4 := by omega
  have hbs0 := hbs
  have cd : Chg w w.drew 0 0 := Chg.of_drew ⟨1, rfl⟩ 0 0
  have HK := Lib.hid (hK.still cd)
  have HT := Lib.hid (hT.still cd)
  have HW := Lib.hid (hW.still cd)
  have HO := Lib.hid (hO.chg cd (Nat.zero_le _))
  have KP := Lib.hid ((Kp.refl bs am c w).still cd)
  have hbs := Nat.le_trans hbs cd.size
  have hchain := enters_of Try.func172 (by kernel_rfl) rfl
  clear hK hT hW hO cd hlen
  go_enter Try.func133, Try.ntmps133
  go_wp2_with fail
  refine wp_region_held_drew (S := fun V => KBox V c p0 (.pointer (some ⟨am, 0, none⟩)) (.func (.func 172) #[] #[.pointer (some ⟨bb, 0, none⟩)])) (by kernel_rfl) HK.out (fun hHeld => ?_)
  generalize w.drew = W at KP HK HT HW HO hbs hHeld ⊢
  refine take_slotC (i := 0) (d := some 4) (v := .pointer (some ⟨c, 0, none⟩)) rfl (by kernel_rfl) (by kernel_rfl) (by kernel_rfl) (by kernel_rfl) (fun _ _ _ h => h) (.inl ⟨by kernel_rfl, fun V hV => by have q0 := KBox.c1 hV; have q2 := KBox.c2 hV; go_simp⟩) hHeld ?_
  try simp only [Act.put, List.setIfInBounds_toArray, List.set_cons_zero, List.set_cons_succ]
  refine take_slotC (i := 1) (d := some 5) (v := .pointer (some ⟨c, 0, none⟩)) rfl (by kernel_rfl) (by kernel_rfl) (by kernel_rfl) (by kernel_rfl) (fun _ _ _ h => h) (.inl ⟨by kernel_rfl, fun V hV => by have q0 := KBox.c1 hV; have q2 := KBox.c2 hV; go_simp⟩) hHeld ?_
  try simp only [Act.put, List.setIfInBounds_toArray, List.set_cons_zero, List.set_cons_succ]
  refine take_slotC (i := 2) (d := some 6) (v := .pointer (some ⟨c, 1, none⟩)) rfl (by kernel_rfl) (by kernel_rfl) (by kernel_rfl) (by kernel_rfl) (fun _ _ _ h => h) (.inl ⟨by kernel_rfl, fun V hV => by have q0 := KBox.c1 hV; have q2 := KBox.c2 hV; go_simp⟩) hHeld ?_
  try simp only [Act.put, List.setIfInBounds_toArray, List.set_cons_zero, List.set_cons_succ]
  refine take_slotC (i := 3) (d := some 7) (v := .pointer (some ⟨am, 0, none⟩)) rfl (by kernel_rfl) (by kernel_rfl) (by kernel_rfl) (by kernel_rfl) (fun _ _ _ h => h) (.inl ⟨by kernel_rfl, fun V hV => by have q0 := KBox.c1 hV; have q2 := KBox.c2 hV; go_simp⟩) hHeld ?_
  try simp only [Act.put, List.setIfInBounds_toArray, List.set_cons_zero, List.set_cons_succ]
  refine take_slotC (i := 4) (d := some 8) (v := .pointer (some ⟨c, 0, none⟩)) rfl (by kernel_rfl) (by kernel_rfl) (by kernel_rfl) (by kernel_rfl) (fun _ _ _ h => h) (.inl ⟨by kernel_rfl, fun V hV => by have q0 := KBox.c1 hV; have q2 := KBox.c2 hV; go_simp⟩) hHeld ?_
  try simp only [Act.put, List.setIfInBounds_toArray, List.set_cons_zero, List.set_cons_succ]
  refine take_slotC (i := 5) (d := some 9) (v := .pointer (some ⟨c, 0, none⟩)) rfl (by kernel_rfl) (by kernel_rfl) (by kernel_rfl) (by kernel_rfl) (fun _ _ _ h => h) (.inl ⟨by kernel_rfl, fun V hV => by have q0 := KBox.c1 hV; have q2 := KBox.c2 hV; go_simp⟩) hHeld ?_
  try simp only [Act.put, List.setIfInBounds_toArray, List.set_cons_zero, List.set_cons_succ]
  refine take_slotC (i := 6) (d := some 10) (v := .pointer (some ⟨c, 1, none⟩)) rfl (by kernel_rfl) (by kernel_rfl) (by kernel_rfl) (by kernel_rfl) (fun _ _ _ h => h) (.inl ⟨by kernel_rfl, fun V hV => by have q0 := KBox.c1 hV; have q2 := KBox.c2 hV; go_simp⟩) hHeld ?_
  try simp only [Act.put, List.setIfInBounds_toArray, List.set_cons_zero, List.set_cons_succ]
  refine take_slotC (i := 7) (d := some 11) (v := .pointer (some ⟨am, 0, none⟩)) rfl (by kernel_rfl) (by kernel_rfl) (by kernel_rfl) (by kernel_rfl) (fun _ _ _ h => h) (.inl ⟨by kernel_rfl, fun V hV => by have q0 := KBox.c1 hV; have q2 := KBox.c2 hV; go_simp⟩) hHeld ?_
  try simp only [Act.put, List.setIfInBounds_toArray, List.set_cons_zero, List.set_cons_succ]
  refine take_slotC (i := 8) (d := some 12) (v := .pointer (some ⟨am, 0, none⟩)) rfl (by kernel_rfl) (by kernel_rfl) (by kernel_rfl) (by kernel_rfl) (fun _ _ _ h => h) (.inl ⟨by kernel_rfl, fun V hV => by have q0 := KBox.c1 hV; have q2 := KBox.c2 hV; go_simp⟩) hHeld ?_
  try simp only [Act.put, List.setIfInBounds_toArray, List.set_cons_zero, List.set_cons_succ]
  refine take_slotC (i := 9) (d := some 13) (v := .pointer (some ⟨am, 1, none⟩)) rfl (by kernel_rfl) (by kernel_rfl) (by kernel_rfl) (by kernel_rfl) (fun _ _ _ h => h) (.inl ⟨by kernel_rfl, fun V hV => by have q0 := KBox.c1 hV; have q2 := KBox.c2 hV; go_simp⟩) hHeld ?_
  try simp only [Act.put, List.setIfInBounds_toArray, List.set_cons_zero, List.set_cons_succ]
  refine take_slotC (i := 11) (d := some 15) (v := .int .i64 x) rfl (by kernel_rfl) (by kernel_rfl) (by kernel_rfl) (by kernel_rfl) (fun _ _ _ h => h) (.inl ⟨by kernel_rfl, fun V hV => by have q0 := KBox.c1 hV; have q2 := KBox.c2 hV; go_simp⟩) hHeld ?_
  try simp only [Act.put, List.setIfInBounds_toArray, List.set_cons_zero, List.set_cons_succ]
  refine wpAnyH_ready (rs := [10, 12]) (by kernel_rfl) (by simp) (AllReadyH.cons (i := 10) rfl (fun K' hK' => ?first) (AllReadyH.cons (i := 12) rfl (fun K' hK' => ?second) AllReadyH.nil))
  case' first =>
    have q1 := HT.out.c1
    go_simp
    clear q1
    refine hK'.out _ _ hHeld (fun hHeld => ?_)
    clear hK'
    try simp only [Act.put, List.setIfInBounds_toArray, List.set_cons_zero, List.set_cons_succ]
    refine wpAnyH_ready (rs := [12]) (by kernel_rfl) (by simp) (AllReadyH.cons (i := 12) rfl (fun K' hK' => ?_) AllReadyH.nil)
    go_simp
    have ca := Chg.of_alloc W (.cells #[.int .i64 x] 2) 0 0
    have HK := Lib.hid (HK.out.still ca)
    have HT := Lib.hid (HT.out.still ca)
    have HW := Lib.hid (HW.out.still ca)
    have HO := Lib.hid (HO.out.alloc (.cells #[.int .i64 x] 2))
    have KP := Lib.hid (KP.out.still ca)
    have HE := Lib.hid (heap_alloc_new W (.cells #[.int .i64 x] 2))
    have hbs := Nat.le_trans hbs ca.size
    refine hK'.out _ _ (hHeld.still ca) (fun hHeld => ?_)
    clear hK' ca
    generalize W.heap.size = e at HE ⊢
    generalize W.alloc (.cells #[.int .i64 x] 2) = V at KP HK HT HW HO HE hbs hHeld ⊢
    try simp only [Act.put, List.setIfInBounds_toArray, List.set_cons_zero, List.set_cons_succ]
    refine wpAnyH_ready (rs := [13]) (by kernel_rfl) (by simp) (AllReadyH.cons (i := 13) rfl (fun K' hK' => ?_) AllReadyH.nil)
    refine step_cat7 rfl (.tmp 14) (.tmp 16) rfl bs (.slice A n cp) zs (by rfl) HO.out 0 _ (some ⟨e, 0, none⟩) 1 1 [x] (by rfl) (fun h => by cases h) (Rd.one7 HE.out) (by omega) hbs ?_
    intro u V2 o2 b2 _
    obtain ⟨B, cb, rfl, hcb, _, ow⟩ := o2.form_at (n := n + 1) hlen1
    have HR := Lib.hid ow.rd.all
    have HK := Lib.hid (HK.out.of (b2.block c hc))
    have HT := Lib.hid (HT.out.of (b2.block am ham))
    have HW := Lib.hid (HW.out.of (b2.block bb hbb) (b2.block sb hsb))
    have KP := Lib.hid (KP.out.below b2)
    have HO := Lib.hid o2
    have hbs := Nat.le_trans hbs b2.size
    refine hK'.out _ _ HK.out (fun hHeld => ?_)
    clear hK' b2 o2 HE ow
    try simp only [Act.put, List.setIfInBounds_toArray]
    refine take_slotC (i := 14) (d := some 18) (v := .pointer (some ⟨am, 0, none⟩)) rfl (by kernel_rfl) (by kernel_rfl) (by kernel_rfl) (by kernel_rfl) (fun _ _ _ h => h) (.inl ⟨by kernel_rfl, fun V hV => by have q0 := KBox.c1 hV; have q2 := KBox.c2 hV; go_simp⟩) hHeld ?_
    try simp only [Act.put]
    refine take_slotC (i := 15) (d := some 19) (v := .pointer (some ⟨am, 1, none⟩)) rfl (by kernel_rfl) (by kernel_rfl) (by kernel_rfl) (by kernel_rfl) (fun _ _ _ h => h) (.inl ⟨by kernel_rfl, fun V hV => by have q0 := KBox.c1 hV; have q2 := KBox.c2 hV; go_simp⟩) hHeld ?_
    try simp only [Act.put]
    refine wpAnyH_ready (rs := [16]) (by kernel_rfl) (by simp) (AllReadyH.cons (i := 16) rfl (fun K' hK' => ?_) AllReadyH.nil)
    have q1 := HT.out.c1
    have f1 := HT.out.fr 1
    go_simp
    clear q1 f1
    have hne := HK.out.ne HT.out (by decide)
    have HB1 := HW.out.1.ne HT.out (by decide)
    have HB2 := HW.out.2.ne HT.out (by decide)
    have HK := Lib.hid (HK.out.of (set_otherS V2 am c 1 (.slice B (n + 1) cb) hne))
    have HT := Lib.hid (HT.out.set1 (.slice B (n + 1) cb))
    have HW := Lib.hid (HW.out.of (set_otherS V2 am bb 1 (.slice B (n + 1) cb) HB1) (set_otherS V2 am sb 1 (.slice B (n + 1) cb) HB2))
    have KP := Lib.hid (KP.out.store1 1 (.slice B (n + 1) cb))
    have HO := Lib.hid (HO.out.cell8 (i := 1) (.slice B (n + 1) cb) ham)
    have HR := Lib.hid (show Rd (V2.setCell ⟨am, 1, none⟩ (.slice B (n + 1) cb)) 0 (V2.setCell ⟨am, 1, none⟩ (.slice B (n + 1) cb)).heap.size B (n + 1) (zs ++ [x]) by obtain ⟨_, _, e1, _, _, ow⟩ := HO.out.form_at (n := n + 1) hlen1; cases e1; exact ow.rd.all)
    have hbs := (show bs ≤ (V2.setCell ⟨am, 1, none⟩ (.slice B (n + 1) cb)).heap.size by rw [setCell_size8]; exact hbs)
    refine hK'.out _ _ HK.out (fun hHeld => ?_)
    clear hK' hHeld hne HB1 HB2
    try simp only [Act.put, List.setIfInBounds_toArray, List.set_cons_zero, List.set_cons_succ]
    refine wpAnyH_done (by kernel_rfl) ?_ _
    generalize (V2.setCell ⟨am, 1, none⟩ (.slice B (n + 1) cb)) = W3 at KP HK HT HW HO HR hbs ⊢
    have HCM := isComplete8 am ld B (n + 1) cb (.pointer none) W3 HT.out (by omega)
    have k1 := HK.out.c1
    go_wp2_with fail
    refine HCM.mono ?_
    rintro e w' ⟨rfl, rfl⟩
    clear HCM k1
    by_cases h4 : n + 1 = 4
    · obtain ⟨wv, hwv⟩ : ∃ wv, wv = winV st ld (fun i => (zs ++ [x]).getD i 0) 4 := ⟨_, rfl⟩
      have HV := Lib.hid (show winV st ld (fun i => (zs ++ [x]).getD i 0) (n + 1) = wv by rw [h4]; exact hwv.symm)
      have HWV := Lib.hid hwv
      have hd : decide (n + 1 = 4) = true := decide_eq_true h4
      have H4 := Lib.hid h4
      have hbt := bldT8 wv
      clear hwv h4
      have cd : Chg W3 W3.drew 0 0 := Chg.of_drew ⟨1, rfl⟩ 0 0
      rw [hd]
      clear hd
      go_wp2_with fail
      have HK := Lib.hid (HK.out.still cd)
      have HT := Lib.hid (HT.out.still cd)
      have HW := Lib.hid (HW.out.still cd)
      have KP := Lib.hid (KP.out.still cd)
      have HO := Lib.hid (HO.out.chg cd (Nat.zero_le _))
      have HR := Lib.hid (show Rd W3.drew 0 W3.drew.heap.size B (n + 1) (zs ++ [x]) from HR.out.still cd)
      have hbs := Nat.le_trans hbs cd.size
      clear cd
      refine wp_region_held_drew (S := fun V => KBox V c p0 (.pointer (some ⟨am, 0, none⟩)) (.func (.func 172) #[] #[.pointer (some ⟨bb, 0, none⟩)])) (by kernel_rfl) HK.out (fun hHeld => ?_)
      generalize W3.drew = W at KP HK HT HW HO HR hbs hHeld ⊢
      refine take_slotC (i := 0) (d := some 25) (v := .pointer (some ⟨c, 0, none⟩)) rfl (by kernel_rfl) (by kernel_rfl) (by kernel_rfl) (by kernel_rfl) (fun _ _ _ h => h) (.inl ⟨by kernel_rfl, fun V hV => by have q0 := KBox.c1 hV; have q2 := KBox.c2 hV; go_simp⟩) hHeld ?_
      try simp only [Act.put, List.setIfInBounds_toArray, List.set_cons_zero, List.set_cons_succ]
      refine take_slotC (i := 1) (d := some 26) (v := .pointer (some ⟨c, 0, none⟩)) rfl (by kernel_rfl) (by kernel_rfl) (by kernel_rfl) (by kernel_rfl) (fun _ _ _ h => h) (.inl ⟨by kernel_rfl, fun V hV => by have q0 := KBox.c1 hV; have q2 := KBox.c2 hV; go_simp⟩) hHeld ?_
      try simp only [Act.put, List.setIfInBounds_toArray, List.set_cons_zero, List.set_cons_succ]
      refine take_slotC (i := 2) (d := some 27) (v := .pointer (some ⟨c, 1, none⟩)) rfl (by kernel_rfl) (by kernel_rfl) (by kernel_rfl) (by kernel_rfl) (fun _ _ _ h => h) (.inl ⟨by kernel_rfl, fun V hV => by have q0 := KBox.c1 hV; have q2 := KBox.c2 hV; go_simp⟩) hHeld ?_
      try simp only [Act.put, List.setIfInBounds_toArray, List.set_cons_zero, List.set_cons_succ]
      refine take_slotC (i := 3) (d := some 28) (v := .pointer (some ⟨am, 0, none⟩)) rfl (by kernel_rfl) (by kernel_rfl) (by kernel_rfl) (by kernel_rfl) (fun _ _ _ h => h) (.inl ⟨by kernel_rfl, fun V hV => by have q0 := KBox.c1 hV; have q2 := KBox.c2 hV; go_simp⟩) hHeld ?_
      try simp only [Act.put, List.setIfInBounds_toArray, List.set_cons_zero, List.set_cons_succ]
      refine take_slotC (i := 4) (d := some 29) (v := .pointer (some ⟨c, 0, none⟩)) rfl (by kernel_rfl) (by kernel_rfl) (by kernel_rfl) (by kernel_rfl) (fun _ _ _ h => h) (.inl ⟨by kernel_rfl, fun V hV => by have q0 := KBox.c1 hV; have q2 := KBox.c2 hV; go_simp⟩) hHeld ?_
      try simp only [Act.put, List.setIfInBounds_toArray, List.set_cons_zero, List.set_cons_succ]
      refine take_slotC (i := 5) (d := some 30) (v := .pointer (some ⟨c, 0, none⟩)) rfl (by kernel_rfl) (by kernel_rfl) (by kernel_rfl) (by kernel_rfl) (fun _ _ _ h => h) (.inl ⟨by kernel_rfl, fun V hV => by have q0 := KBox.c1 hV; have q2 := KBox.c2 hV; go_simp⟩) hHeld ?_
      try simp only [Act.put, List.setIfInBounds_toArray, List.set_cons_zero, List.set_cons_succ]
      refine take_slotC (i := 6) (d := some 31) (v := .pointer (some ⟨c, 2, none⟩)) rfl (by kernel_rfl) (by kernel_rfl) (by kernel_rfl) (by kernel_rfl) (fun _ _ _ h => h) (.inl ⟨by kernel_rfl, fun V hV => by have q0 := KBox.c1 hV; have q2 := KBox.c2 hV; go_simp⟩) hHeld ?_
      try simp only [Act.put, List.setIfInBounds_toArray, List.set_cons_zero, List.set_cons_succ]
      refine take_slotC (i := 7) (d := some 32) (v := .func (.func 172) #[] #[.pointer (some ⟨bb, 0, none⟩)]) rfl (by kernel_rfl) (by kernel_rfl) (by kernel_rfl) (by kernel_rfl) (fun _ _ _ h => h) (.inl ⟨by kernel_rfl, fun V hV => by have q0 := KBox.c1 hV; have q2 := KBox.c2 hV; go_simp⟩) hHeld ?_
      try simp only [Act.put, List.setIfInBounds_toArray, List.set_cons_zero, List.set_cons_succ]
      refine take_slotC (i := 8) (d := some 33) (v := .pointer (some ⟨c, 0, none⟩)) rfl (by kernel_rfl) (by kernel_rfl) (by kernel_rfl) (by kernel_rfl) (fun _ _ _ h => h) (.inl ⟨by kernel_rfl, fun V hV => by have q0 := KBox.c1 hV; have q2 := KBox.c2 hV; go_simp⟩) hHeld ?_
      try simp only [Act.put, List.setIfInBounds_toArray, List.set_cons_zero, List.set_cons_succ]
      refine take_slotC (i := 9) (d := some 34) (v := .pointer (some ⟨c, 0, none⟩)) rfl (by kernel_rfl) (by kernel_rfl) (by kernel_rfl) (by kernel_rfl) (fun _ _ _ h => h) (.inl ⟨by kernel_rfl, fun V hV => by have q0 := KBox.c1 hV; have q2 := KBox.c2 hV; go_simp⟩) hHeld ?_
      try simp only [Act.put, List.setIfInBounds_toArray, List.set_cons_zero, List.set_cons_succ]
      refine take_slotC (i := 10) (d := some 35) (v := .pointer (some ⟨c, 1, none⟩)) rfl (by kernel_rfl) (by kernel_rfl) (by kernel_rfl) (by kernel_rfl) (fun _ _ _ h => h) (.inl ⟨by kernel_rfl, fun V hV => by have q0 := KBox.c1 hV; have q2 := KBox.c2 hV; go_simp⟩) hHeld ?_
      try simp only [Act.put, List.setIfInBounds_toArray, List.set_cons_zero, List.set_cons_succ]
      refine take_slotC (i := 11) (d := some 36) (v := .pointer (some ⟨am, 0, none⟩)) rfl (by kernel_rfl) (by kernel_rfl) (by kernel_rfl) (by kernel_rfl) (fun _ _ _ h => h) (.inl ⟨by kernel_rfl, fun V hV => by have q0 := KBox.c1 hV; have q2 := KBox.c2 hV; go_simp⟩) hHeld ?_
      try simp only [Act.put, List.setIfInBounds_toArray, List.set_cons_zero, List.set_cons_succ]
      refine wpAnyH_ready (rs := [12]) (by kernel_rfl) (by simp) (AllReadyH.cons (i := 12) rfl (fun K' hK' => ?_) AllReadyH.nil)
      go_simp
      refine (winner8 am ld st B (n + 1) cb (zs ++ [x]) (.pointer none) bb sb 0 _ _ HT.out HR.out HW.out (by omega) hz1 hl).mono ?_
      rintro e w2 ⟨rfl, c2⟩
      have HK := Lib.hid (HK.out.still c2)
      have HT := Lib.hid (HT.out.still c2)
      have HW := Lib.hid (HW.out.still c2)
      have HO := Lib.hid (HO.out.chg c2 (Nat.zero_le _))
      have KP := Lib.hid (KP.out.still c2)
      have hbs := Nat.le_trans hbs c2.size
      clear c2 HR
      rw [HV.out]
      refine hK'.out _ _ HK.out (fun hHeld => ?_)
      clear hK'
      try simp only [Act.put, List.setIfInBounds_toArray, List.set_cons_zero, List.set_cons_succ]
      refine take_slotC (i := 13) (d := some 38) (v := .agg #[.int .i64 wv, .slice none 0 0, .pointer none]) rfl (by kernel_rfl) (by kernel_rfl) (by kernel_rfl) (by kernel_rfl) (fun _ _ _ h => h) (.inl ⟨by kernel_rfl, fun V hV => by have q0 := KBox.c1 hV; have q2 := KBox.c2 hV; go_simp⟩) hHeld ?_
      try simp only [Act.put, List.setIfInBounds_toArray, List.set_cons_zero, List.set_cons_succ]
      refine wpAnyH_ready (rs := [14]) (by kernel_rfl) (by simp) (AllReadyH.cons (i := 14) rfl (fun K' hK' => ?_) AllReadyH.nil)
      go_simp
      have ca := Chg.of_alloc w2 (.cells #[.int .i64 wv, .slice none 0 0, .pointer none] 118) 0 0
      have HK := Lib.hid (HK.out.still ca)
      have HT := Lib.hid (HT.out.still ca)
      have HW := Lib.hid (HW.out.still ca)
      have HO := Lib.hid (HO.out.alloc (.cells #[.int .i64 wv, .slice none 0 0, .pointer none] 118))
      have HN : Hid (TBox (w2.alloc (.cells #[.int .i64 wv, .slice none 0 0, .pointer none] 118)) w2.heap.size wv (.slice none 0 0) (.pointer none)) := heap_alloc_new w2 _
      have hlo := KP.out.size
      have KP := Lib.hid (KP.out.still ca)
      have hbs1 := hbs
      have hbs := Nat.le_trans hbs ca.size
      refine hK'.out _ _ (hHeld.still ca) (fun hHeld => ?_)
      clear hK' ca
      generalize w2.heap.size = a' at HN hlo hbs1 ⊢
      generalize w2.alloc (.cells #[.int .i64 wv, .slice none 0 0, .pointer none] 118) = V4 at KP HK HT HW HO HN hbs hHeld ⊢
      try simp only [Act.put, List.setIfInBounds_toArray, List.set_cons_zero, List.set_cons_succ]
      refine take_slotC (i := 15) (d := some 40) (v := .pointer (some ⟨am, 0, none⟩)) rfl (by kernel_rfl) (by kernel_rfl) (by kernel_rfl) (by kernel_rfl) (fun _ _ _ h => h) (.inl ⟨by kernel_rfl, fun V hV => by have q0 := KBox.c1 hV; have q2 := KBox.c2 hV; go_simp⟩) hHeld ?_
      try simp only [Act.put, List.setIfInBounds_toArray, List.set_cons_zero, List.set_cons_succ]
      refine take_slotC (i := 16) (d := some 41) (v := .pointer (some ⟨am, 2, none⟩)) rfl (by kernel_rfl) (by kernel_rfl) (by kernel_rfl) (by kernel_rfl) (fun _ _ _ h => h) (.inl ⟨by kernel_rfl, fun V hV => by have q0 := KBox.c1 hV; have q2 := KBox.c2 hV; go_simp⟩) hHeld ?_
      try simp only [Act.put, List.setIfInBounds_toArray, List.set_cons_zero, List.set_cons_succ]
      refine wpAnyH_ready (rs := [17]) (by kernel_rfl) (by simp) (AllReadyH.cons (i := 17) rfl (fun K' hK' => ?_) AllReadyH.nil)
      have q2 := HT.out.c2
      have f2 := HT.out.fr 2
      go_simp
      clear q2 f2
      have hne := HK.out.ne HT.out (by decide)
      have HB1 := HW.out.1.ne HT.out (by decide)
      have HB2 := HW.out.2.ne HT.out (by decide)
      have hna : a' ≠ am := by omega
      have HK := Lib.hid (HK.out.of (set_otherS V4 am c 2 (.pointer (some ⟨a', 0, none⟩)) hne))
      have HN := Lib.hid (HN.out.of (set_otherS V4 am a' 2 (.pointer (some ⟨a', 0, none⟩)) hna))
      have HT := Lib.hid (HT.out.set2 (.pointer (some ⟨a', 0, none⟩)))
      have HW := Lib.hid (HW.out.of (set_otherS V4 am bb 2 (.pointer (some ⟨a', 0, none⟩)) HB1) (set_otherS V4 am sb 2 (.pointer (some ⟨a', 0, none⟩)) HB2))
      have KP := Lib.hid (KP.out.store1 2 (.pointer (some ⟨a', 0, none⟩)))
      have HO := Lib.hid (HO.out.cell8 (i := 2) (.pointer (some ⟨a', 0, none⟩)) ham)
      refine hK'.out _ _ HK.out (fun hHeld => ?_)
      clear hK' hHeld hne HB1 HB2
      try simp only [Act.put, List.setIfInBounds_toArray, List.set_cons_zero, List.set_cons_succ]
      refine wpAnyH_done (by kernel_rfl) ?_ _
      generalize (V4.setCell ⟨am, 2, none⟩ (.pointer (some ⟨a', 0, none⟩))) = W5 at KP HK HT HW HO HN ⊢
      have k1 := HK.out.c1
      have k2 := HT.out.c2
      have f1 := HK.out.fr 1
      go_wp2
      go_end0
      have hne := HT.out.ne HK.out (by decide)
      have hne2 := HN.out.ne HK.out (by decide)
      have HB1 := HW.out.1.ne HK.out (by decide)
      have HB2 := HW.out.2.ne HK.out (by decide)
      refine ⟨rfl, KP.out.store2 1 _, HW.out.of (set_otherS W5 c bb 1 _ HB1) (set_otherS W5 c sb 1 _ HB2), _, HO.out.cell8 (i := 1) _ hc, fun e => absurd H4.out (by omega), fun _ => ⟨a', hlo, ?_, HT.out.of (set_otherS W5 c am 1 _ hne), ?_, HK.out.set1 _⟩⟩
      · rw [setCell_size8]; exact HN.out.lt
      · rw [← HWV.out]; exact HN.out.of (set_otherS W5 c a' 1 _ hne2)
    · have hd : decide (n + 1 = 4) = false := decide_eq_false h4
      have H4 := Lib.hid h4
      rw [hd]
      clear hd h4
      go_wp2
      go_end0
      exact ⟨rfl, KP.out, HW.out, _, HO.out, fun _ => ⟨HT.out, HK.out⟩, fun e => absurd e H4.out⟩
  case' second =>
    go_simp
    have ca := Chg.of_alloc W (.cells #[.int .i64 x] 2) 0 0
    have HK := Lib.hid (HK.out.still ca)
    have HT := Lib.hid (HT.out.still ca)
    have HW := Lib.hid (HW.out.still ca)
    have HO := Lib.hid (HO.out.alloc (.cells #[.int .i64 x] 2))
    have KP := Lib.hid (KP.out.still ca)
    have HE := Lib.hid (heap_alloc_new W (.cells #[.int .i64 x] 2))
    have hbs := Nat.le_trans hbs ca.size
    refine hK'.out _ _ (hHeld.still ca) (fun hHeld => ?_)
    clear hK' ca
    generalize W.heap.size = e at HE ⊢
    generalize W.alloc (.cells #[.int .i64 x] 2) = V at KP HK HT HW HO HE hbs hHeld ⊢
    try simp only [Act.put, List.setIfInBounds_toArray, List.set_cons_zero, List.set_cons_succ]
    refine wpAnyH_ready (rs := [10]) (by kernel_rfl) (by simp) (AllReadyH.cons (i := 10) rfl (fun K' hK' => ?_) AllReadyH.nil)
    have q1 := HT.out.c1
    go_simp
    clear q1
    refine hK'.out _ _ hHeld (fun hHeld => ?_)
    clear hK'
    try simp only [Act.put, List.setIfInBounds_toArray, List.set_cons_zero, List.set_cons_succ]
    refine wpAnyH_ready (rs := [13]) (by kernel_rfl) (by simp) (AllReadyH.cons (i := 13) rfl (fun K' hK' => ?_) AllReadyH.nil)
    refine step_cat7 rfl (.tmp 14) (.tmp 16) rfl bs (.slice A n cp) zs (by rfl) HO.out 0 _ (some ⟨e, 0, none⟩) 1 1 [x] (by rfl) (fun h => by cases h) (Rd.one7 HE.out) (by omega) hbs ?_
    intro u V2 o2 b2 _
    obtain ⟨B, cb, rfl, hcb, _, ow⟩ := o2.form_at (n := n + 1) hlen1
    have HR := Lib.hid ow.rd.all
    have HK := Lib.hid (HK.out.of (b2.block c hc))
    have HT := Lib.hid (HT.out.of (b2.block am ham))
    have HW := Lib.hid (HW.out.of (b2.block bb hbb) (b2.block sb hsb))
    have KP := Lib.hid (KP.out.below b2)
    have HO := Lib.hid o2
    have hbs := Nat.le_trans hbs b2.size
    refine hK'.out _ _ HK.out (fun hHeld => ?_)
    clear hK' b2 o2 HE ow
    try simp only [Act.put, List.setIfInBounds_toArray]
    refine take_slotC (i := 14) (d := some 18) (v := .pointer (some ⟨am, 0, none⟩)) rfl (by kernel_rfl) (by kernel_rfl) (by kernel_rfl) (by kernel_rfl) (fun _ _ _ h => h) (.inl ⟨by kernel_rfl, fun V hV => by have q0 := KBox.c1 hV; have q2 := KBox.c2 hV; go_simp⟩) hHeld ?_
    try simp only [Act.put]
    refine take_slotC (i := 15) (d := some 19) (v := .pointer (some ⟨am, 1, none⟩)) rfl (by kernel_rfl) (by kernel_rfl) (by kernel_rfl) (by kernel_rfl) (fun _ _ _ h => h) (.inl ⟨by kernel_rfl, fun V hV => by have q0 := KBox.c1 hV; have q2 := KBox.c2 hV; go_simp⟩) hHeld ?_
    try simp only [Act.put]
    refine wpAnyH_ready (rs := [16]) (by kernel_rfl) (by simp) (AllReadyH.cons (i := 16) rfl (fun K' hK' => ?_) AllReadyH.nil)
    have q1 := HT.out.c1
    have f1 := HT.out.fr 1
    go_simp
    clear q1 f1
    have hne := HK.out.ne HT.out (by decide)
    have HB1 := HW.out.1.ne HT.out (by decide)
    have HB2 := HW.out.2.ne HT.out (by decide)
    have HK := Lib.hid (HK.out.of (set_otherS V2 am c 1 (.slice B (n + 1) cb) hne))
    have HT := Lib.hid (HT.out.set1 (.slice B (n + 1) cb))
    have HW := Lib.hid (HW.out.of (set_otherS V2 am bb 1 (.slice B (n + 1) cb) HB1) (set_otherS V2 am sb 1 (.slice B (n + 1) cb) HB2))
    have KP := Lib.hid (KP.out.store1 1 (.slice B (n + 1) cb))
    have HO := Lib.hid (HO.out.cell8 (i := 1) (.slice B (n + 1) cb) ham)
    have HR := Lib.hid (show Rd (V2.setCell ⟨am, 1, none⟩ (.slice B (n + 1) cb)) 0 (V2.setCell ⟨am, 1, none⟩ (.slice B (n + 1) cb)).heap.size B (n + 1) (zs ++ [x]) by obtain ⟨_, _, e1, _, _, ow⟩ := HO.out.form_at (n := n + 1) hlen1; cases e1; exact ow.rd.all)
    have hbs := (show bs ≤ (V2.setCell ⟨am, 1, none⟩ (.slice B (n + 1) cb)).heap.size by rw [setCell_size8]; exact hbs)
    refine hK'.out _ _ HK.out (fun hHeld => ?_)
    clear hK' hHeld hne HB1 HB2
    try simp only [Act.put, List.setIfInBounds_toArray, List.set_cons_zero, List.set_cons_succ]
    refine wpAnyH_done (by kernel_rfl) ?_ _
    generalize (V2.setCell ⟨am, 1, none⟩ (.slice B (n + 1) cb)) = W3 at KP HK HT HW HO HR hbs ⊢
    have HCM := isComplete8 am ld B (n + 1) cb (.pointer none) W3 HT.out (by omega)
    have k1 := HK.out.c1
    go_wp2_with fail
    refine HCM.mono ?_
    rintro e w' ⟨rfl, rfl⟩
    clear HCM k1
    by_cases h4 : n + 1 = 4
    · obtain ⟨wv, hwv⟩ : ∃ wv, wv = winV st ld (fun i => (zs ++ [x]).getD i 0) 4 := ⟨_, rfl⟩
      have HV := Lib.hid (show winV st ld (fun i => (zs ++ [x]).getD i 0) (n + 1) = wv by rw [h4]; exact hwv.symm)
      have HWV := Lib.hid hwv
      have hd : decide (n + 1 = 4) = true := decide_eq_true h4
      have H4 := Lib.hid h4
      have hbt := bldT8 wv
      clear hwv h4
      have cd : Chg W3 W3.drew 0 0 := Chg.of_drew ⟨1, rfl⟩ 0 0
      rw [hd]
      clear hd
      go_wp2_with fail
      have HK := Lib.hid (HK.out.still cd)
      have HT := Lib.hid (HT.out.still cd)
      have HW := Lib.hid (HW.out.still cd)
      have KP := Lib.hid (KP.out.still cd)
      have HO := Lib.hid (HO.out.chg cd (Nat.zero_le _))
      have HR := Lib.hid (show Rd W3.drew 0 W3.drew.heap.size B (n + 1) (zs ++ [x]) from HR.out.still cd)
      have hbs := Nat.le_trans hbs cd.size
      clear cd
      refine wp_region_held_drew (S := fun V => KBox V c p0 (.pointer (some ⟨am, 0, none⟩)) (.func (.func 172) #[] #[.pointer (some ⟨bb, 0, none⟩)])) (by kernel_rfl) HK.out (fun hHeld => ?_)
      generalize W3.drew = W at KP HK HT HW HO HR hbs hHeld ⊢
      refine take_slotC (i := 0) (d := some 25) (v := .pointer (some ⟨c, 0, none⟩)) rfl (by kernel_rfl) (by kernel_rfl) (by kernel_rfl) (by kernel_rfl) (fun _ _ _ h => h) (.inl ⟨by kernel_rfl, fun V hV => by have q0 := KBox.c1 hV; have q2 := KBox.c2 hV; go_simp⟩) hHeld ?_
      try simp only [Act.put, List.setIfInBounds_toArray, List.set_cons_zero, List.set_cons_succ]
      refine take_slotC (i := 1) (d := some 26) (v := .pointer (some ⟨c, 0, none⟩)) rfl (by kernel_rfl) (by kernel_rfl) (by kernel_rfl) (by kernel_rfl) (fun _ _ _ h => h) (.inl ⟨by kernel_rfl, fun V hV => by have q0 := KBox.c1 hV; have q2 := KBox.c2 hV; go_simp⟩) hHeld ?_
      try simp only [Act.put, List.setIfInBounds_toArray, List.set_cons_zero, List.set_cons_succ]
      refine take_slotC (i := 2) (d := some 27) (v := .pointer (some ⟨c, 1, none⟩)) rfl (by kernel_rfl) (by kernel_rfl) (by kernel_rfl) (by kernel_rfl) (fun _ _ _ h => h) (.inl ⟨by kernel_rfl, fun V hV => by have q0 := KBox.c1 hV; have q2 := KBox.c2 hV; go_simp⟩) hHeld ?_
      try simp only [Act.put, List.setIfInBounds_toArray, List.set_cons_zero, List.set_cons_succ]
      refine take_slotC (i := 3) (d := some 28) (v := .pointer (some ⟨am, 0, none⟩)) rfl (by kernel_rfl) (by kernel_rfl) (by kernel_rfl) (by kernel_rfl) (fun _ _ _ h => h) (.inl ⟨by kernel_rfl, fun V hV => by have q0 := KBox.c1 hV; have q2 := KBox.c2 hV; go_simp⟩) hHeld ?_
      try simp only [Act.put, List.setIfInBounds_toArray, List.set_cons_zero, List.set_cons_succ]
      refine take_slotC (i := 4) (d := some 29) (v := .pointer (some ⟨c, 0, none⟩)) rfl (by kernel_rfl) (by kernel_rfl) (by kernel_rfl) (by kernel_rfl) (fun _ _ _ h => h) (.inl ⟨by kernel_rfl, fun V hV => by have q0 := KBox.c1 hV; have q2 := KBox.c2 hV; go_simp⟩) hHeld ?_
      try simp only [Act.put, List.setIfInBounds_toArray, List.set_cons_zero, List.set_cons_succ]
      refine take_slotC (i := 5) (d := some 30) (v := .pointer (some ⟨c, 0, none⟩)) rfl (by kernel_rfl) (by kernel_rfl) (by kernel_rfl) (by kernel_rfl) (fun _ _ _ h => h) (.inl ⟨by kernel_rfl, fun V hV => by have q0 := KBox.c1 hV; have q2 := KBox.c2 hV; go_simp⟩) hHeld ?_
      try simp only [Act.put, List.setIfInBounds_toArray, List.set_cons_zero, List.set_cons_succ]
      refine take_slotC (i := 6) (d := some 31) (v := .pointer (some ⟨c, 2, none⟩)) rfl (by kernel_rfl) (by kernel_rfl) (by kernel_rfl) (by kernel_rfl) (fun _ _ _ h => h) (.inl ⟨by kernel_rfl, fun V hV => by have q0 := KBox.c1 hV; have q2 := KBox.c2 hV; go_simp⟩) hHeld ?_
      try simp only [Act.put, List.setIfInBounds_toArray, List.set_cons_zero, List.set_cons_succ]
      refine take_slotC (i := 7) (d := some 32) (v := .func (.func 172) #[] #[.pointer (some ⟨bb, 0, none⟩)]) rfl (by kernel_rfl) (by kernel_rfl) (by kernel_rfl) (by kernel_rfl) (fun _ _ _ h => h) (.inl ⟨by kernel_rfl, fun V hV => by have q0 := KBox.c1 hV; have q2 := KBox.c2 hV; go_simp⟩) hHeld ?_
      try simp only [Act.put, List.setIfInBounds_toArray, List.set_cons_zero, List.set_cons_succ]
      refine take_slotC (i := 8) (d := some 33) (v := .pointer (some ⟨c, 0, none⟩)) rfl (by kernel_rfl) (by kernel_rfl) (by kernel_rfl) (by kernel_rfl) (fun _ _ _ h => h) (.inl ⟨by kernel_rfl, fun V hV => by have q0 := KBox.c1 hV; have q2 := KBox.c2 hV; go_simp⟩) hHeld ?_
      try simp only [Act.put, List.setIfInBounds_toArray, List.set_cons_zero, List.set_cons_succ]
      refine take_slotC (i := 9) (d := some 34) (v := .pointer (some ⟨c, 0, none⟩)) rfl (by kernel_rfl) (by kernel_rfl) (by kernel_rfl) (by kernel_rfl) (fun _ _ _ h => h) (.inl ⟨by kernel_rfl, fun V hV => by have q0 := KBox.c1 hV; have q2 := KBox.c2 hV; go_simp⟩) hHeld ?_
      try simp only [Act.put, List.setIfInBounds_toArray, List.set_cons_zero, List.set_cons_succ]
      refine take_slotC (i := 10) (d := some 35) (v := .pointer (some ⟨c, 1, none⟩)) rfl (by kernel_rfl) (by kernel_rfl) (by kernel_rfl) (by kernel_rfl) (fun _ _ _ h => h) (.inl ⟨by kernel_rfl, fun V hV => by have q0 := KBox.c1 hV; have q2 := KBox.c2 hV; go_simp⟩) hHeld ?_
      try simp only [Act.put, List.setIfInBounds_toArray, List.set_cons_zero, List.set_cons_succ]
      refine take_slotC (i := 11) (d := some 36) (v := .pointer (some ⟨am, 0, none⟩)) rfl (by kernel_rfl) (by kernel_rfl) (by kernel_rfl) (by kernel_rfl) (fun _ _ _ h => h) (.inl ⟨by kernel_rfl, fun V hV => by have q0 := KBox.c1 hV; have q2 := KBox.c2 hV; go_simp⟩) hHeld ?_
      try simp only [Act.put, List.setIfInBounds_toArray, List.set_cons_zero, List.set_cons_succ]
      refine wpAnyH_ready (rs := [12]) (by kernel_rfl) (by simp) (AllReadyH.cons (i := 12) rfl (fun K' hK' => ?_) AllReadyH.nil)
      go_simp
      refine (winner8 am ld st B (n + 1) cb (zs ++ [x]) (.pointer none) bb sb 0 _ _ HT.out HR.out HW.out (by omega) hz1 hl).mono ?_
      rintro e w2 ⟨rfl, c2⟩
      have HK := Lib.hid (HK.out.still c2)
      have HT := Lib.hid (HT.out.still c2)
      have HW := Lib.hid (HW.out.still c2)
      have HO := Lib.hid (HO.out.chg c2 (Nat.zero_le _))
      have KP := Lib.hid (KP.out.still c2)
      have hbs := Nat.le_trans hbs c2.size
      clear c2 HR
      rw [HV.out]
      refine hK'.out _ _ HK.out (fun hHeld => ?_)
      clear hK'
      try simp only [Act.put, List.setIfInBounds_toArray, List.set_cons_zero, List.set_cons_succ]
      refine take_slotC (i := 13) (d := some 38) (v := .agg #[.int .i64 wv, .slice none 0 0, .pointer none]) rfl (by kernel_rfl) (by kernel_rfl) (by kernel_rfl) (by kernel_rfl) (fun _ _ _ h => h) (.inl ⟨by kernel_rfl, fun V hV => by have q0 := KBox.c1 hV; have q2 := KBox.c2 hV; go_simp⟩) hHeld ?_
      try simp only [Act.put, List.setIfInBounds_toArray, List.set_cons_zero, List.set_cons_succ]
      refine wpAnyH_ready (rs := [14]) (by kernel_rfl) (by simp) (AllReadyH.cons (i := 14) rfl (fun K' hK' => ?_) AllReadyH.nil)
      go_simp
      have ca := Chg.of_alloc w2 (.cells #[.int .i64 wv, .slice none 0 0, .pointer none] 118) 0 0
      have HK := Lib.hid (HK.out.still ca)
      have HT := Lib.hid (HT.out.still ca)
      have HW := Lib.hid (HW.out.still ca)
      have HO := Lib.hid (HO.out.alloc (.cells #[.int .i64 wv, .slice none 0 0, .pointer none] 118))
      have HN : Hid (TBox (w2.alloc (.cells #[.int .i64 wv, .slice none 0 0, .pointer none] 118)) w2.heap.size wv (.slice none 0 0) (.pointer none)) := heap_alloc_new w2 _
      have hlo := KP.out.size
      have KP := Lib.hid (KP.out.still ca)
      have hbs1 := hbs
      have hbs := Nat.le_trans hbs ca.size
      refine hK'.out _ _ (hHeld.still ca) (fun hHeld => ?_)
      clear hK' ca
      generalize w2.heap.size = a' at HN hlo hbs1 ⊢
      generalize w2.alloc (.cells #[.int .i64 wv, .slice none 0 0, .pointer none] 118) = V4 at KP HK HT HW HO HN hbs hHeld ⊢
      try simp only [Act.put, List.setIfInBounds_toArray, List.set_cons_zero, List.set_cons_succ]
      refine take_slotC (i := 15) (d := some 40) (v := .pointer (some ⟨am, 0, none⟩)) rfl (by kernel_rfl) (by kernel_rfl) (by kernel_rfl) (by kernel_rfl) (fun _ _ _ h => h) (.inl ⟨by kernel_rfl, fun V hV => by have q0 := KBox.c1 hV; have q2 := KBox.c2 hV; go_simp⟩) hHeld ?_
      try simp only [Act.put, List.setIfInBounds_toArray, List.set_cons_zero, List.set_cons_succ]
      refine take_slotC (i := 16) (d := some 41) (v := .pointer (some ⟨am, 2, none⟩)) rfl (by kernel_rfl) (by kernel_rfl) (by kernel_rfl) (by kernel_rfl) (fun _ _ _ h => h) (.inl ⟨by kernel_rfl, fun V hV => by have q0 := KBox.c1 hV; have q2 := KBox.c2 hV; go_simp⟩) hHeld ?_
      try simp only [Act.put, List.setIfInBounds_toArray, List.set_cons_zero, List.set_cons_succ]
      refine wpAnyH_ready (rs := [17]) (by kernel_rfl) (by simp) (AllReadyH.cons (i := 17) rfl (fun K' hK' => ?_) AllReadyH.nil)
      have q2 := HT.out.c2
      have f2 := HT.out.fr 2
      go_simp
      clear q2 f2
      have hne := HK.out.ne HT.out (by decide)
      have HB1 := HW.out.1.ne HT.out (by decide)
      have HB2 := HW.out.2.ne HT.out (by decide)
      have hna : a' ≠ am := by omega
      have HK := Lib.hid (HK.out.of (set_otherS V4 am c 2 (.pointer (some ⟨a', 0, none⟩)) hne))
      have HN := Lib.hid (HN.out.of (set_otherS V4 am a' 2 (.pointer (some ⟨a', 0, none⟩)) hna))
      have HT := Lib.hid (HT.out.set2 (.pointer (some ⟨a', 0, none⟩)))
      have HW := Lib.hid (HW.out.of (set_otherS V4 am bb 2 (.pointer (some ⟨a', 0, none⟩)) HB1) (set_otherS V4 am sb 2 (.pointer (some ⟨a', 0, none⟩)) HB2))
      have KP := Lib.hid (KP.out.store1 2 (.pointer (some ⟨a', 0, none⟩)))
      have HO := Lib.hid (HO.out.cell8 (i := 2) (.pointer (some ⟨a', 0, none⟩)) ham)
      refine hK'.out _ _ HK.out (fun hHeld => ?_)
      clear hK' hHeld hne HB1 HB2
      try simp only [Act.put, List.setIfInBounds_toArray, List.set_cons_zero, List.set_cons_succ]
      refine wpAnyH_done (by kernel_rfl) ?_ _
      generalize (V4.setCell ⟨am, 2, none⟩ (.pointer (some ⟨a', 0, none⟩))) = W5 at KP HK HT HW HO HN ⊢
      have k1 := HK.out.c1
      have k2 := HT.out.c2
      have f1 := HK.out.fr 1
      go_wp2
      go_end0
      have hne := HT.out.ne HK.out (by decide)
      have hne2 := HN.out.ne HK.out (by decide)
      have HB1 := HW.out.1.ne HK.out (by decide)
      have HB2 := HW.out.2.ne HK.out (by decide)
      refine ⟨rfl, KP.out.store2 1 _, HW.out.of (set_otherS W5 c bb 1 _ HB1) (set_otherS W5 c sb 1 _ HB2), _, HO.out.cell8 (i := 1) _ hc, fun e => absurd H4.out (by omega), fun _ => ⟨a', hlo, ?_, HT.out.of (set_otherS W5 c am 1 _ hne), ?_, HK.out.set1 _⟩⟩
      · rw [setCell_size8]; exact HN.out.lt
      · rw [← HWV.out]; exact HN.out.of (set_otherS W5 c a' 1 _ hne2)
    · have hd : decide (n + 1 = 4) = false := decide_eq_false h4
      have H4 := Lib.hid h4
      rw [hd]
      clear hd h4
      go_wp2
      go_end0
      exact ⟨rfl, KP.out, HW.out, _, HO.out, fun _ => ⟨HT.out, HK.out⟩, fun e => absurd e H4.out⟩

end Go.Proofs.Yteglffbeldlibaa.Lib1
