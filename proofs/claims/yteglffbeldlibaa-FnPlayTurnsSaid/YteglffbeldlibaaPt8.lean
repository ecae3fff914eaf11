/- Chapter 8, the program: the chain of tricks behind a list of cards. (Written by wip/gen8l.py.) -/
import Derived.Test.YteglffbeldlibaaPr8
namespace Go.Proofs.Yteglffbeldlibaa.Lib1
open Go.RowKit
set_option maxRecDepth 100000

set_option maxHeartbeats 1600000 in
theorem turnT8 (c am : Nat) (p f nx : Value) (ld : Int) (A : Option Addr) (n cp : Nat) (w : World) (hK : KBox w c p (.pointer (some ⟨am, 0, none⟩)) f) (hT : TBox w am ld (.slice A n cp) nx) (hn : n ≤ 1048576) (hl : 0 ≤ ld ∧ ld ≤ 3) :
    Calls Try.prog 73 #[.pointer (some ⟨c, 0, none⟩)] w fun e w' => e = .returned (.int .i64 ((ld + (n : Int)) % 4)) ∧ Chg w w' 0 0 := by
  have cd : Chg w w.drew 0 0 := Chg.of_drew ⟨1, rfl⟩ 0 0
  have H0 := And.intro (hK.still cd) (hT.still cd)
  go_enter Try.func73, Try.ntmps73
  go_wp2_with fail
  refine wp_region_held_drew (S := fun V => KBox V c p (.pointer (some ⟨am, 0, none⟩)) f ∧ TBox V am ld (.slice A n cp) nx) (by kernel_rfl) H0 (fun hHeld => ?_)
  refine take_slotC (i := 0) (d := some 3) (v := .pointer (some ⟨c, 0, none⟩)) rfl (by kernel_rfl) (by kernel_rfl) (by kernel_rfl) (by kernel_rfl) (fun _ _ _ h => h) (.inl ⟨by kernel_rfl, fun V hV => by obtain ⟨hV1, hV2⟩ := hV; have q0 := KBox.c1 hV1; have q2 := TBox.c1 hV2; go_simp⟩) hHeld ?_
  try simp only [Act.put, List.setIfInBounds_toArray, List.set_cons_zero, List.set_cons_succ]
  refine take_slotC (i := 1) (d := some 4) (v := .pointer (some ⟨c, 0, none⟩)) rfl (by kernel_rfl) (by kernel_rfl) (by kernel_rfl) (by kernel_rfl) (fun _ _ _ h => h) (.inl ⟨by kernel_rfl, fun V hV => by obtain ⟨hV1, hV2⟩ := hV; have q0 := KBox.c1 hV1; have q2 := TBox.c1 hV2; go_simp⟩) hHeld ?_
  try simp only [Act.put, List.setIfInBounds_toArray, List.set_cons_zero, List.set_cons_succ]
  refine take_slotC (i := 2) (d := some 5) (v := .pointer (some ⟨c, 1, none⟩)) rfl (by kernel_rfl) (by kernel_rfl) (by kernel_rfl) (by kernel_rfl) (fun _ _ _ h => h) (.inl ⟨by kernel_rfl, fun V hV => by obtain ⟨hV1, hV2⟩ := hV; have q0 := KBox.c1 hV1; have q2 := TBox.c1 hV2; go_simp⟩) hHeld ?_
  try simp only [Act.put, List.setIfInBounds_toArray, List.set_cons_zero, List.set_cons_succ]
  refine take_slotC (i := 3) (d := some 6) (v := .pointer (some ⟨am, 0, none⟩)) rfl (by kernel_rfl) (by kernel_rfl) (by kernel_rfl) (by kernel_rfl) (fun _ _ _ h => h) (.inl ⟨by kernel_rfl, fun V hV => by obtain ⟨hV1, hV2⟩ := hV; have q0 := KBox.c1 hV1; have q2 := TBox.c1 hV2; go_simp⟩) hHeld ?_
  try simp only [Act.put, List.setIfInBounds_toArray, List.set_cons_zero, List.set_cons_succ]
  refine take_slotC (i := 4) (d := some 7) (v := .pointer (some ⟨c, 0, none⟩)) rfl (by kernel_rfl) (by kernel_rfl) (by kernel_rfl) (by kernel_rfl) (fun _ _ _ h => h) (.inl ⟨by kernel_rfl, fun V hV => by obtain ⟨hV1, hV2⟩ := hV; have q0 := KBox.c1 hV1; have q2 := TBox.c1 hV2; go_simp⟩) hHeld ?_
  try simp only [Act.put, List.setIfInBounds_toArray, List.set_cons_zero, List.set_cons_succ]
  refine take_slotC (i := 5) (d := some 8) (v := .pointer (some ⟨c, 0, none⟩)) rfl (by kernel_rfl) (by kernel_rfl) (by kernel_rfl) (by kernel_rfl) (fun _ _ _ h => h) (.inl ⟨by kernel_rfl, fun V hV => by obtain ⟨hV1, hV2⟩ := hV; have q0 := KBox.c1 hV1; have q2 := TBox.c1 hV2; go_simp⟩) hHeld ?_
  try simp only [Act.put, List.setIfInBounds_toArray, List.set_cons_zero, List.set_cons_succ]
  refine take_slotC (i := 6) (d := some 9) (v := .pointer (some ⟨c, 1, none⟩)) rfl (by kernel_rfl) (by kernel_rfl) (by kernel_rfl) (by kernel_rfl) (fun _ _ _ h => h) (.inl ⟨by kernel_rfl, fun V hV => by obtain ⟨hV1, hV2⟩ := hV; have q0 := KBox.c1 hV1; have q2 := TBox.c1 hV2; go_simp⟩) hHeld ?_
  try simp only [Act.put, List.setIfInBounds_toArray, List.set_cons_zero, List.set_cons_succ]
  refine take_slotC (i := 7) (d := some 10) (v := .pointer (some ⟨am, 0, none⟩)) rfl (by kernel_rfl) (by kernel_rfl) (by kernel_rfl) (by kernel_rfl) (fun _ _ _ h => h) (.inl ⟨by kernel_rfl, fun V hV => by obtain ⟨hV1, hV2⟩ := hV; have q0 := KBox.c1 hV1; have q2 := TBox.c1 hV2; go_simp⟩) hHeld ?_
  try simp only [Act.put, List.setIfInBounds_toArray, List.set_cons_zero, List.set_cons_succ]
  refine take_slotC (i := 8) (d := some 11) (v := .pointer (some ⟨am, 0, none⟩)) rfl (by kernel_rfl) (by kernel_rfl) (by kernel_rfl) (by kernel_rfl) (fun _ _ _ h => h) (.inl ⟨by kernel_rfl, fun V hV => by obtain ⟨hV1, hV2⟩ := hV; have q0 := KBox.c1 hV1; have q2 := TBox.c1 hV2; go_simp⟩) hHeld ?_
  try simp only [Act.put, List.setIfInBounds_toArray, List.set_cons_zero, List.set_cons_succ]
  refine take_slotC (i := 9) (d := some 12) (v := .pointer (some ⟨am, 1, none⟩)) rfl (by kernel_rfl) (by kernel_rfl) (by kernel_rfl) (by kernel_rfl) (fun _ _ _ h => h) (.inl ⟨by kernel_rfl, fun V hV => by obtain ⟨hV1, hV2⟩ := hV; have q0 := KBox.c1 hV1; have q2 := TBox.c1 hV2; go_simp⟩) hHeld ?_
  try simp only [Act.put, List.setIfInBounds_toArray, List.set_cons_zero, List.set_cons_succ]
  refine take_slotC (i := 10) (d := some 13) (v := .slice A n cp) rfl (by kernel_rfl) (by kernel_rfl) (by kernel_rfl) (by kernel_rfl) (fun _ _ _ h => h) (.inl ⟨by kernel_rfl, fun V hV => by obtain ⟨hV1, hV2⟩ := hV; have q0 := KBox.c1 hV1; have q2 := TBox.c1 hV2; go_simp⟩) hHeld ?_
  try simp only [Act.put, List.setIfInBounds_toArray, List.set_cons_zero, List.set_cons_succ]
  refine take_slotC (i := 11) (d := some 14) (v := .int .i64 (n : Int)) rfl (by kernel_rfl) (by kernel_rfl) (by kernel_rfl) (by kernel_rfl) (fun _ _ _ h => h) (.inl ⟨by kernel_rfl, fun V hV => by obtain ⟨hV1, hV2⟩ := hV; have q0 := KBox.c1 hV1; have q2 := TBox.c1 hV2; go_simp⟩) hHeld ?_
  try simp only [Act.put, List.setIfInBounds_toArray, List.set_cons_zero, List.set_cons_succ]
  refine wpAnyH_ready (rs := [12]) (by kernel_rfl) (by simp) (AllReadyH.cons (i := 12) rfl (fun K' hK' => ?_) AllReadyH.nil)
  go_simp
  refine (player8 am ld (n : Int) _ _ _ hHeld.2 hl (by omega) (by omega)).mono ?_
  rintro e w' ⟨rfl, rfl⟩
  refine hK'.out _ _ hHeld (fun hHeld => ?_)
  clear hK'
  try simp only [Act.put, List.setIfInBounds_toArray, List.set_cons_zero, List.set_cons_succ]
  refine take_slotC (i := 13) (d := some 2) (v := .int .i64 ((ld + (n : Int)) % 4)) rfl (by kernel_rfl) (by kernel_rfl) (by kernel_rfl) (by kernel_rfl) (fun _ _ _ h => h) (.inl ⟨by kernel_rfl, fun V hV => by obtain ⟨hV1, hV2⟩ := hV; have q0 := KBox.c1 hV1; have q2 := TBox.c1 hV2; go_simp⟩) hHeld ?_
  try simp only [Act.put, List.setIfInBounds_toArray, List.set_cons_zero, List.set_cons_succ]
  refine wpAnyH_done (by kernel_rfl) ?_ _
  go_wp2_with fail
  go_ret
  exact ⟨rfl, cd⟩

theorem func_store8 (W : World) (g : Nat) (f : Nat) (caps : Array Value) (m : Mode) : (store ⟨g, 0, none⟩ (.func (.func f) #[] caps) m).run Try.prog W = stored Try.prog W ⟨g, 0, none⟩ (.func (.func f) #[] caps) m := run_store Try.prog W _ _ m rfl
theorem winnerIn8 (st : Int) (w : World) :
    Calls Try.prog 146 #[.int .i64 st] w fun e w' => ∃ bb sb, e = .returned (.func (.func 172) #[] #[.pointer (some ⟨bb, 0, none⟩)]) ∧ WinV w' st bb sb ∧ w.heap.size ≤ bb ∧ bb < w'.heap.size ∧ w.heap.size ≤ sb ∧ sb < w'.heap.size ∧ Chg w w' 0 0 := by
  have hs := func_store8
  go_enter Try.func146, Try.ntmps146
  go_wp2
  go_ret
  have c1 := Chg.of_alloc w (.cells #[.int .i64 st] 2) 0 0
  have c2 := Chg.of_alloc (w.alloc (.cells #[.int .i64 st] 2)) (.cells #[.func (.func 171) #[] #[.pointer (some ⟨w.heap.size, 0, none⟩)]] 176) 0 0
  have e1 : (w.alloc (.cells #[.int .i64 st] 2)).heap.size = w.heap.size + 1 := by simp
  have x1 := (SBox.new w 2 #[.int .i64 st]).still c2
  have x2 := SBox.new (w.alloc (.cells #[.int .i64 st] 2)) 176 #[.func (.func 171) #[] #[.pointer (some ⟨w.heap.size, 0, none⟩)]]
  rw [e1] at x2
  exact ⟨w.heap.size + 1, w.heap.size, rfl, ⟨x2, x1⟩, by omega, x2.lt, Nat.le_refl _, x1.lt, c1.trans c2⟩
theorem bldK8 (a bb : Nat) : Try.prog.built 115 [(0, .pointer (some ⟨a, 0, none⟩)), (1, .pointer (some ⟨a, 0, none⟩)), (2, .func (.func 172) #[] #[.pointer (some ⟨bb, 0, none⟩)])] = some #[.pointer (some ⟨a, 0, none⟩), .pointer (some ⟨a, 0, none⟩), .func (.func 172) #[] #[.pointer (some ⟨bb, 0, none⟩)]] := by kernel_rfl
theorem startTricks8 (st ld : Int) (w : World) :
    Calls Try.prog 116 #[.int .i64 st, .int .i64 ld] w fun e w' => ∃ c a0 bb sb, e = .returned (.pointer (some ⟨c, 0, none⟩)) ∧ KBox w' c (.pointer (some ⟨a0, 0, none⟩)) (.pointer (some ⟨a0, 0, none⟩)) (.func (.func 172) #[] #[.pointer (some ⟨bb, 0, none⟩)]) ∧ TBox w' a0 ld (.slice none 0 0) (.pointer none) ∧ WinV w' st bb sb ∧
      (w.heap.size ≤ c ∧ c < w'.heap.size) ∧ (w.heap.size ≤ a0 ∧ a0 < w'.heap.size) ∧ (w.heap.size ≤ bb ∧ bb < w'.heap.size) ∧ (w.heap.size ≤ sb ∧ sb < w'.heap.size) ∧ Chg w w' 0 0 := by
  have c1 := Chg.of_alloc w (.cells #[.int .i64 ld, .slice none 0 0, .pointer none] 118) 0 0
  have HT : Hid (TBox (w.alloc (.cells #[.int .i64 ld, .slice none 0 0, .pointer none] 118)) w.heap.size ld (.slice none 0 0) (.pointer none)) := heap_alloc_new w _
  have C := Lib.hid c1
  have hb := bldT8 ld
  clear c1
  go_enter Try.func116, Try.ntmps116
  go_wp2_with fail
  generalize w.alloc (.cells #[.int .i64 ld, .slice none 0 0, .pointer none] 118) = W at C HT ⊢
  refine (winnerIn8 st W).mono ?_
  rintro e W2 ⟨bb, sb, rfl, hw, b1, b2, b3, b4, c2⟩
  have HT := Lib.hid (HT.out.still c2)
  have C2 := Lib.hid (C.out.trans c2)
  have HW := Lib.hid hw
  have z1 := C.out.size
  have z2 := c2.size
  have zt := HT.out.lt
  have hbk := bldK8 w.heap.size bb
  clear c2 hw C
  go_wp2_with fail
  go_ret
  have ca := Chg.of_alloc W2 (.cells #[.pointer (some ⟨w.heap.size, 0, none⟩), .pointer (some ⟨w.heap.size, 0, none⟩), .func (.func 172) #[] #[.pointer (some ⟨bb, 0, none⟩)]] 115) 0 0
  have hk : KBox (W2.alloc (.cells #[.pointer (some ⟨w.heap.size, 0, none⟩), .pointer (some ⟨w.heap.size, 0, none⟩), .func (.func 172) #[] #[.pointer (some ⟨bb, 0, none⟩)]] 115)) W2.heap.size (.pointer (some ⟨w.heap.size, 0, none⟩)) (.pointer (some ⟨w.heap.size, 0, none⟩)) (.func (.func 172) #[] #[.pointer (some ⟨bb, 0, none⟩)]) := heap_alloc_new W2 _
  have hz := hk.lt
  exact ⟨_, _, bb, sb, rfl, hk, HT.out.still ca, HW.out.still ca, ⟨by omega, hz⟩, ⟨Nat.le_refl _, by omega⟩, ⟨by omega, by omega⟩, ⟨by omega, by omega⟩, C2.out.trans ca⟩

/-- Nothing below B and nothing in Z has turned. -/
structure Fr (B : Nat) (Z : Nat → Prop) (w w' : World) : Prop where
  os : w'.os = w.os
  tape : w'.tape = w.tape
  output : w'.output = w.output
  size : w.heap.size ≤ w'.heap.size
  block : ∀ k, k < w.heap.size → (k < B ∨ Z k) → w'.heap[k]? = w.heap[k]?
theorem Fr.refl (B : Nat) (Z : Nat → Prop) (w : World) : Fr B Z w w := ⟨rfl, rfl, rfl, Nat.le_refl _, fun _ _ _ => rfl⟩
theorem Fr.trans {B : Nat} {Z : Nat → Prop} {a b c : World} (h : Fr B Z a b) (k : Fr B Z b c) : Fr B Z a c :=
  ⟨k.os.trans h.os, k.tape.trans h.tape, k.output.trans h.output, Nat.le_trans h.size k.size, fun i hi ho => (k.block i (Nat.lt_of_lt_of_le hi h.size) ho).trans (h.block i hi ho)⟩
theorem Fr.of_still {B : Nat} {Z : Nat → Prop} {w w' : World} (h : Chg w w' 0 0) : Fr B Z w w' := ⟨h.os, h.tape, h.output, h.size, fun k hk _ => h.block k hk (.inr (Nat.zero_le _))⟩
theorem Fr.chg {B : Nat} {Z : Nat → Prop} {w w' : World} (h : Fr B Z w w') (hB : w.heap.size ≤ B) : Chg w w' 0 0 := ⟨h.os, h.tape, h.output, h.size, fun k hk _ => h.block k hk (.inl (by omega))⟩
theorem Fr.below {B : Nat} {Z : Nat → Prop} {w w' : World} (h : Fr B Z w w') (hB : B ≤ w.heap.size) : Below B w w' := ⟨h.os, h.tape, h.output, h.size, fun k hk => h.block k (by omega) (.inl hk)⟩
def OutZ (B : Nat) (Z : Nat → Prop) (bs x : Nat) : Prop := B ≤ x ∧ x < bs ∧ ¬ Z x
/-- Nothing but what lies in Z has turned. -/
structure ChgZ (Z : Nat → Prop) (w w' : World) : Prop where
  os : w'.os = w.os
  tape : w'.tape = w.tape
  output : w'.output = w.output
  size : w.heap.size ≤ w'.heap.size
  block : ∀ k, k < w.heap.size → ¬ Z k → w'.heap[k]? = w.heap[k]?
theorem ChgZ.of_chg {Z : Nat → Prop} {w w' : World} {lo hi : Nat} (k : Chg w w' lo hi) (h : ∀ x, lo ≤ x → x < hi → Z x) : ChgZ Z w w' :=
  ⟨k.os, k.tape, k.output, k.size, fun x hx hz => k.block x hx (by
    by_cases h1 : x < lo
    · exact .inl h1
    · by_cases h2 : hi ≤ x
      · exact .inr h2
      · exact absurd (h x (by omega) (by omega)) hz)⟩
theorem ChgZ.trans {Z : Nat → Prop} {a b c : World} (h : ChgZ Z a b) (k : ChgZ Z b c) : ChgZ Z a c :=
  ⟨k.os.trans h.os, k.tape.trans h.tape, k.output.trans h.output, Nat.le_trans h.size k.size, fun i hi ho => (k.block i (Nat.lt_of_lt_of_le hi h.size) ho).trans (h.block i hi ho)⟩
/-- The chain of tricks at c behind the cards us; none of it lies below B or in Z. -/
def Tch (w : World) (c B : Nat) (Z : Nat → Prop) (st ld : Int) (us : List Int) : Prop := ∃ (a : Nat → Nat) (cv : Nat → Value) (v : Value) (bs bb sb : Nat),
  KBox w c (.pointer (some ⟨a 0, 0, none⟩)) (.pointer (some ⟨a (us.length / 4), 0, none⟩)) (.func (.func 172) #[] #[.pointer (some ⟨bb, 0, none⟩)]) ∧ WinV w st bb sb ∧
  (∀ j, j < us.length / 4 → TBox w (a j) (leadT st ld us j) (cv j) (.pointer (some ⟨a (j + 1), 0, none⟩))) ∧
  TBox w (a (us.length / 4)) (leadT st ld us (us.length / 4)) v (.pointer none) ∧ OwnV w bs v (us.drop (4 * (us.length / 4))) ∧
  (∀ j, j ≤ us.length / 4 → OutZ B Z bs (a j)) ∧ OutZ B Z bs c ∧ OutZ B Z bs bb ∧ OutZ B Z bs sb ∧ ((∀ k, Z k → k < bs) ∧ B ≤ bs ∧ bs ≤ w.heap.size) ∧ ∀ i j, i < j → j ≤ us.length / 4 → a i ≠ a j
theorem Tch.zone {w w' : World} {c B : Nat} {Z : Nat → Prop} {st ld : Int} {us : List Int} (h : Tch w c B Z st ld us) (k : ChgZ Z w w') : Tch w' c B Z st ld us := by
  obtain ⟨a, cv, v, bs, bb, sb, h1, h2, h3, h4, h5, h6, h7, h8, h9, h10, h11⟩ := h
  have hb : ∀ x, OutZ B Z bs x → w'.heap[x]? = w.heap[x]? := fun x hx => k.block x (by have := hx.2.1; omega) hx.2.2
  exact ⟨a, cv, v, bs, bb, sb, h1.of (hb _ h7), h2.of (hb _ h8) (hb _ h9), fun j hj => (h3 j hj).of (hb _ (h6 j (by omega))), h4.of (hb _ (h6 _ (Nat.le_refl _))), h5.chg (⟨k.os, k.tape, k.output, k.size, fun x hx ho => k.block x hx (fun hz => by have := h10.1 x hz; omega)⟩ : Chg w w' 0 bs) (Nat.le_refl _), h6, h7, h8, h9, ⟨h10.1, h10.2.1, Nat.le_trans h10.2.2 k.size⟩, h11⟩
theorem Tch.still {w w' : World} {c B : Nat} {Z : Nat → Prop} {st ld : Int} {us : List Int} (h : Tch w c B Z st ld us) (k : Chg w w' 0 0) : Tch w' c B Z st ld us := h.zone (ChgZ.of_chg k (fun _ _ h2 => absurd h2 (Nat.not_lt_zero _)))
theorem Tch.start {w : World} {c a0 bb sb B : Nat} {Z : Nat → Prop} {st ld : Int} (h1 : KBox w c (.pointer (some ⟨a0, 0, none⟩)) (.pointer (some ⟨a0, 0, none⟩)) (.func (.func 172) #[] #[.pointer (some ⟨bb, 0, none⟩)])) (h2 : TBox w a0 ld (.slice none 0 0) (.pointer none)) (h3 : WinV w st bb sb)
    (o1 : OutZ B Z w.heap.size c) (o2 : OutZ B Z w.heap.size a0) (o3 : OutZ B Z w.heap.size bb) (o4 : OutZ B Z w.heap.size sb) (hh : ∀ k, Z k → k < w.heap.size) : Tch w c B Z st ld [] :=
  ⟨fun _ => a0, fun _ => .pointer none, .slice none 0 0, w.heap.size, bb, sb, h1, h3, fun _ h => absurd h (Nat.not_lt_zero _), h2, OwnV.nil_ _ _, fun _ _ => o2, o1, o3, o4, ⟨hh, by have := o1.1; have := o1.2.1; omega, Nat.le_refl _⟩, fun i j h1 h2 => by
    have : j ≤ 0 := h2
    omega⟩
theorem getD_drop8 (l : List Int) (k i : Nat) : (l.drop k).getD i 0 = l.getD (k + i) 0 := by simp [List.getD, List.getElem?_drop]
theorem Tch.step {w w' : World} {c B : Nat} {Z : Nat → Prop} {st ld x : Int} {us : List Int} {a : Nat → Nat} {cv : Nat → Value} {v' : Value} {bs bb sb : Nat}
    (h3 : ∀ j, j < us.length / 4 → TBox w (a j) (leadT st ld us j) (cv j) (.pointer (some ⟨a (j + 1), 0, none⟩)))
    (h6 : ∀ j, j ≤ us.length / 4 → OutZ B Z bs (a j)) (h7 : OutZ B Z bs c) (h8 : OutZ B Z bs bb) (h9 : OutZ B Z bs sb) (h10 : (∀ k, Z k → k < bs) ∧ B ≤ bs ∧ bs ≤ w.heap.size) (h11 : ∀ i j, i < j → j ≤ us.length / 4 → a i ≠ a j)
    (hK : KBox w c (.pointer (some ⟨a 0, 0, none⟩)) (.pointer (some ⟨a (us.length / 4), 0, none⟩)) (.func (.func 172) #[] #[.pointer (some ⟨bb, 0, none⟩)]))
    (kp : Kp bs (a (us.length / 4)) c w w') (hw : WinV w' st bb sb) (ho : OwnV w' bs v' (us.drop (4 * (us.length / 4)) ++ [x]))
    (hlt : us.length % 4 + 1 < 4 → TBox w' (a (us.length / 4)) (leadT st ld us (us.length / 4)) v' (.pointer none) ∧ KBox w' c (.pointer (some ⟨a 0, 0, none⟩)) (.pointer (some ⟨a (us.length / 4), 0, none⟩)) (.func (.func 172) #[] #[.pointer (some ⟨bb, 0, none⟩)]))
    (heq : us.length % 4 + 1 = 4 → ∃ a', w.heap.size ≤ a' ∧ a' < w'.heap.size ∧ TBox w' (a (us.length / 4)) (leadT st ld us (us.length / 4)) v' (.pointer (some ⟨a', 0, none⟩)) ∧
      TBox w' a' (winV st (leadT st ld us (us.length / 4)) (fun i => (us.drop (4 * (us.length / 4)) ++ [x]).getD i 0) 4) (.slice none 0 0) (.pointer none) ∧ KBox w' c (.pointer (some ⟨a 0, 0, none⟩)) (.pointer (some ⟨a', 0, none⟩)) (.func (.func 172) #[] #[.pointer (some ⟨bb, 0, none⟩)])) :
    Tch w' c B Z st ld (us ++ [x]) ∧ Fr B Z w w' := by
  have hlen : (us ++ [x]).length = us.length + 1 := by simp
  have hdrop : (us ++ [x]).drop (4 * (us.length / 4)) = us.drop (4 * (us.length / 4)) ++ [x] := List.drop_append_of_le_length (by omega)
  have hfr : Fr B Z w w' := ⟨kp.os, kp.tape, kp.output, kp.size, fun k _ ho => by
    have o1 := h6 (us.length / 4) (Nat.le_refl _)
    rcases ho with ho | ho
    · exact kp.block k (Nat.lt_of_lt_of_le ho h10.2.1) (fun e => by have := o1.1; omega) (fun e => by have := h7.1; omega)
    · exact kp.block k (h10.1 k ho) (fun e => o1.2.2 (e ▸ ho)) (fun e => h7.2.2 (e ▸ ho))⟩
  have hold : ∀ j, j < us.length / 4 → TBox w' (a j) (leadT st ld us j) (cv j) (.pointer (some ⟨a (j + 1), 0, none⟩)) := fun j hj =>
    (h3 j hj).of (kp.block (a j) (h6 j (by omega)).2.1 (h11 j _ hj (Nat.le_refl _)) ((h3 j hj).ne hK (by decide)))
  refine ⟨?_, hfr⟩
  by_cases e : us.length % 4 + 1 = 4
  · obtain ⟨a', g1, g2, t1, t2, k1⟩ := heq e
    have hq : (us ++ [x]).length / 4 = us.length / 4 + 1 := by rw [hlen]; omega
    have hle : ∀ j, j ≤ us.length / 4 → leadT st ld (us ++ [x]) j = leadT st ld us j := fun j hj => lead_snoc x (by omega)
    refine ⟨fun j => if j = us.length / 4 + 1 then a' else a j, fun j => if j = us.length / 4 then v' else cv j, .slice none 0 0, w'.heap.size, bb, sb, ?_, hw, fun j hj => ?_, ?_, ?_, fun j hj => ?_, ?_, ?_, ?_, ?_, fun i j hij hj => ?_⟩
    · rw [hq]; simpa using k1
    · rw [hq] at hj
      dsimp only
      rw [if_neg (show ¬ j = us.length / 4 + 1 by omega), hle j (by omega)]
      by_cases e2 : j = us.length / 4
      · subst e2
        rw [if_pos rfl, if_pos rfl]; exact t1
      · rw [if_neg e2, if_neg (show ¬ j + 1 = us.length / 4 + 1 by omega)]
        exact hold j (by omega)
    · rw [hq]
      simp only [if_true]
      rw [leadT, hle _ (Nat.le_refl _)]
      have ef : (fun i => (us ++ [x]).getD (4 * (us.length / 4) + i) 0) = fun i => (us.drop (4 * (us.length / 4)) ++ [x]).getD i 0 := by
        funext i
        rw [← hdrop, getD_drop8]
      rw [ef]
      exact t2
    · have : (us ++ [x]).drop (4 * ((us ++ [x]).length / 4)) = [] := List.drop_eq_nil_of_le (by rw [hq, hlen]; omega)
      rw [this]
      exact OwnV.nil_ _ _
    · rw [hq] at hj
      dsimp only
      by_cases e2 : j = us.length / 4 + 1
      · rw [if_pos e2]
        exact ⟨by omega, g2, fun hz => by have := h10.1 _ hz; omega⟩
      · rw [if_neg e2]
        have o := h6 j (by omega)
        have := o.2.1
        exact ⟨o.1, by omega, o.2.2⟩
    · exact ⟨h7.1, by have := h7.2.1; omega, h7.2.2⟩
    · exact ⟨h8.1, by have := h8.2.1; omega, h8.2.2⟩
    · exact ⟨h9.1, by have := h9.2.1; omega, h9.2.2⟩
    · exact ⟨fun k hk => by have := h10.1 k hk; omega, by omega, Nat.le_refl _⟩
    · rw [hq] at hj
      dsimp only
      rw [if_neg (show ¬ i = us.length / 4 + 1 by omega)]
      by_cases e2 : j = us.length / 4 + 1
      · rw [if_pos e2]
        have := (h6 i (by omega)).2.1
        omega
      · rw [if_neg e2]
        exact h11 i j hij (by omega)
  · have hq : (us ++ [x]).length / 4 = us.length / 4 := by rw [hlen]; omega
    obtain ⟨t1, k1⟩ := hlt (by omega)
    have hle : ∀ j, j ≤ us.length / 4 → leadT st ld (us ++ [x]) j = leadT st ld us j := fun j hj => lead_snoc x (by omega)
    refine ⟨a, cv, v', bs, bb, sb, ?_, hw, fun j hj => ?_, ?_, ?_, fun j hj => ?_, h7, h8, h9, ?_, fun i j hij hj => ?_⟩
    · rw [hq]; exact k1
    · rw [hq] at hj
      rw [hle j (by omega)]
      exact hold j hj
    · rw [hq, hle _ (Nat.le_refl _)]; exact t1
    · rw [hq, hdrop]; exact ho
    · rw [hq] at hj; exact h6 j hj
    · have := kp.size
      exact ⟨h10.1, h10.2.1, by omega⟩
    · rw [hq] at hj; exact h11 i j hij hj
theorem Tch.open_ {w : World} {c B : Nat} {Z : Nat → Prop} {st ld : Int} {us : List Int} (h : Tch w c B Z st ld us) : ∃ p f am A n cp, n = us.length % 4 ∧ KBox w c p (.pointer (some ⟨am, 0, none⟩)) f ∧ TBox w am (leadT st ld us (us.length / 4)) (.slice A n cp) (.pointer none) ∧ Rd w 0 w.heap.size A n (us.drop (4 * (us.length / 4))) := by
  obtain ⟨a, cv, v, bs, bb, sb, h1, _, _, h4, h5, _⟩ := h
  obtain ⟨A, cp, rfl, _, _, ow⟩ := h5.form_at (n := us.length % 4) (by rw [List.length_drop]; omega)
  exact ⟨_, _, _, A, _, cp, rfl, h1, h4, ow.rd.all⟩
theorem turn8 (c B : Nat) (Z : Nat → Prop) (st ld : Int) (us : List Int) (w : World) (h : Tch w c B Z st ld us) (hl : 0 ≤ ld ∧ ld ≤ 3) :
    Calls Try.prog 73 #[.pointer (some ⟨c, 0, none⟩)] w fun e w' => e = .returned (.int .i64 (turnL st ld us)) ∧ Chg w w' 0 0 := by
  obtain ⟨p, f, am, A, n, cp, hn, hK, hT, _⟩ := h.open_
  have := turnT8 c am p f (.pointer none) _ A n cp w hK hT (by omega) (leadT_rng hl us _)
  rw [hn] at this
  exact this
theorem add8 (c B : Nat) (Z : Nat → Prop) (st ld x : Int) (us : List Int) (w : World) (h : Tch w c B Z st ld us) (hl : 0 ≤ ld ∧ ld ≤ 3) (hx : 0 ≤ x ∧ x ≤ 51) (hz : ∀ j, j < us.length → 0 ≤ us.getD j 0 ∧ us.getD j 0 ≤ 51) :
    Calls Try.prog 133 #[.pointer (some ⟨c, 0, none⟩), .int .i64 x] w fun e w' => e = .returned (.tuple #[]) ∧ Tch w' c B Z st ld (us ++ [x]) ∧ Fr B Z w w' := by
  obtain ⟨a, cv, v, bs, bb, sb, h1, h2, h3, h4, h5, h6, h7, h8, h9, h10, h11⟩ := h
  have hlen : (us.drop (4 * (us.length / 4))).length = us.length % 4 := by rw [List.length_drop]; omega
  obtain ⟨A, cp, rfl, hc, _, _⟩ := h5.form_at hlen
  refine (addT8 c _ _ _ st x A _ cp _ bb sb bs w h1 h4 h2 h5 hlen (Nat.mod_lt _ (by decide)) (h6 _ (Nat.le_refl _)).2.1 h7.2.1 h8.2.1 h9.2.1 h10.2.2 hx (fun j hj => ?_) (leadT_rng hl us _)).mono ?_
  · rw [getD_drop8]; exact hz _ (by omega)
  · rintro e w' ⟨he, kp, hw, v', ho, hlt, heq⟩
    exact ⟨he, Tch.step h3 h6 h7 h8 h9 h10 h11 h1 kp hw ho hlt heq⟩

set_option maxHeartbeats 1600000 in
/-- impl.tricksOf of a plain play -/
theorem tricksOf8 (st ld : Int) (A : Option Addr) (n cp : Nat) (cs : List Int) (w : World) (h : Rd w 0 w.heap.size A n cs) (hn : n ≤ 1048576) (hl : 0 ≤ ld ∧ ld ≤ 3) (hz : ∀ j, j < n → 0 ≤ cs.getD j 0 ∧ cs.getD j 0 ≤ 51) :
    Calls Try.prog 94 #[.agg #[.int .i64 st, .int .i64 ld, .slice A n cp]] w fun e w' => ∃ c, e = .returned (.pointer (some ⟨c, 0, none⟩)) ∧ Tch w' c w.heap.size (fun _ => False) st ld cs ∧ Chg w w' 0 0 := by
  have hlen := h.1
  have X := Lib.hid (SBox.new w 29 #[.int .i64 st, .int .i64 ld, .slice A n cp])
  have C := Lib.hid (Chg.of_alloc w (.cells #[.int .i64 st, .int .i64 ld, .slice A n cp] 29) 0 0)
  have H := Lib.hid h
  have HZ := Lib.hid hz
  have q0 := (X.out.cell 0).trans rfl
  have q1 := (X.out.cell 1).trans rfl
  clear h hz
  go_enter Try.func94, Try.ntmps94
  go_wp2_with fail
  generalize w.alloc (.cells #[.int .i64 st, .int .i64 ld, .slice A n cp] 29) = W at X C q0 q1 ⊢
  refine (startTricks8 st ld W).mono ?_
  rintro e W2 ⟨c, a0, bb, sb, rfl, k1, k2, k3, ⟨r1, r2⟩, ⟨r3, r4⟩, ⟨r5, r6⟩, ⟨r7, r8⟩, c2⟩
  have zw := C.out.size
  have hT : Tch W2 c w.heap.size (fun _ => False) st ld [] := Tch.start k1 k2 k3 ⟨by omega, r2, fun h => h⟩ ⟨by omega, r4, fun h => h⟩ ⟨by omega, r6, fun h => h⟩ ⟨by omega, r8, fun h => h⟩ (fun _ h => absurd h (fun h => h))
  have HT := Lib.hid hT
  have C2 := Lib.hid (C.out.trans c2)
  have X2 := Lib.hid (X.out.still c2)
  have q3 := (X2.out.cell 2).trans rfl
  clear k1 k2 k3 r1 r2 r3 r4 r5 r6 r7 r8 c2 hT q0 q1 zw X C
  go_wp2_with fail
  go_loopw [14] (fun i wr => ∃ k : Nat, k ≤ n ∧ i = .int .i64 k ∧ Hid (Tch wr c w.heap.size (fun _ => False) st ld (cs.take k)) ∧ Hid (Fr w.heap.size (fun _ => False) w wr)) (fun i _ => n - (intOf i).toNat)
  case atStart => exact ⟨0, Nat.zero_le _, rfl, HT.out, Fr.of_still C2.out⟩
  case round =>
    obtain ⟨k, hk, rfl, ht, hc⟩ := hrel
    clear q3
    by_cases hlt : k < n
    · obtain ⟨b, off, hA, hcs⟩ := (H.out.still (hc.out.chg (Nat.le_refl _))).2 (by omega)
      obtain ⟨_, _, hcs⟩ := hcs
      subst hA
      have hck := hcs k hlt
      have hkl : (k : Int) < (n : Int) := by omega
      have hzk := HZ.out k hlt
      have htk := Lib.hid (take_one (cs := cs) (k := k) (by omega))
      clear hcs
      generalize cs.getD k 0 = x at hck hzk htk
      have HXK := Lib.hid hzk
      clear hzk
      have hadd := Lib.hid (add8 c w.heap.size (fun _ => False) st ld x (cs.take k) wr ht.out hl HXK.out (fun j hj => by
        rw [List.length_take] at hj
        rw [show (cs.take k).getD j 0 = cs.getD j 0 by simp [List.getD, show j < k by omega]]
        exact HZ.out j (by omega)))
      go_wp2_with fail
      refine hadd.out.mono ?_
      rintro e w2 ⟨rfl, ht2, hf2⟩
      have HT2 := Lib.hid ht2
      have HC2 := Lib.hid (hc.out.trans hf2)
      clear ht2 hf2 hadd
      go_wp2_with fail
      go_roundw
      case rel => exact ⟨k + 1, by omega, by go_num, by rw [htk.out]; exact HT2.out, HC2.out⟩
      case measure => simp [intOf]; omega
    · obtain rfl : k = n := by omega
      have HTn := Lib.hid (show Tch wr c w.heap.size (fun _ => False) st ld cs by have := ht.out; rwa [List.take_of_length_le (by omega)] at this)
      go_wp2
      go_ret
      exact ⟨c, rfl, HTn.out, hc.out.chg (Nat.le_refl _)⟩
end Go.Proofs.Yteglffbeldlibaa.Lib1
