/- Contracts of the draws of chapter 2: a hand with many high cards, a hand's text that may be damaged. -/
import Derived.Test.YteojdlacdnfgiaaDoorDraws
import Derived.Test.YteojdlacdnfgiaaDoorTwo
import Derived.Deep.RegionWith
import Derived.Deep.DeepFit
import Derived.WalkSpells
namespace Go.Proofs.YteojdlacdnfgiaaDoor.Lib1
open Go.RowKit
set_option maxRecDepth 100000


/-- A list is drawn. -/
def DrewS (w : World) (e : Ending) (w' : World) : Prop :=
  ∃ A c zs, e = .returned (.slice A zs.length c) ∧ zs.length ≤ 15 ∧ zs.length ≤ c ∧ Plain A c ∧ Own w' w.heap.size w'.heap.size A zs.length zs ∧ Below w.heap.size w w'



set_option maxHeartbeats 1000000 in
/-- spec.DrawHandText -/
theorem DrawHandText (A : Option Addr) (n c : Nat) (w : World) (h : Bytes w A n) (hn : n ≤ 1048576) :
    Calls Tryd.prog 8 #[.slice A n c] w (DrewS w) := by
  go_enter Tryd.func8, Tryd.ntmps8
  go_wp2_with fail
  refine (l01From A n c _ h hn).mono ?_
  rintro e w1 ⟨rfl, s1, b1⟩
  go_wp2_with fail
  refine (l01DrawAny _ _ s1).mono ?_
  rintro e w2 ⟨v2, z2, rfl, hl2, o2, s2, k2⟩
  have o3 := o2.more b1.size
  obtain ⟨A3, c3, rfl, hc3, hp3, ow3⟩ := o3.form_at rfl
  go_wp2_with fail
  go_ret
  exact ⟨A3, c3, z2, rfl, hl2, hc3, hp3, ow3, below_draw b1 k2 (Nat.le_refl _) s1.lt⟩

/-- A string is drawn. -/
def DrewStr (g m : Nat) (w : World) (e : Ending) (w' : World) : Prop := ∃ u : ByteArray, e = .returned (.string u) ∧ u.size ≤ m ∧ Src w' g ∧ Chg w w' g (g + 1)

/-- The six texts that a damaged text may get. -/
def six : Array Value := #[.string ⟨#[46]⟩, .string ⟨#[65]⟩, .string ⟨#[50]⟩, .string ⟨#[32]⟩, .string ⟨#[120]⟩, .string ⟨#[84]⟩]
theorem six_at (r : Int) (h0 : 0 ≤ r) (h1 : r < 6) : ∃ u : ByteArray, u.size = 1 ∧ six[r.toNat]? = some (.string u) := by
  have hr : r = 0 ∨ r = 1 ∨ r = 2 ∨ r = 3 ∨ r = 4 ∨ r = 5 := by omega
  rcases hr with rfl | rfl | rfl | rfl | rfl | rfl
  · exact ⟨_, rfl, rfl⟩
  · exact ⟨_, rfl, rfl⟩
  · exact ⟨_, rfl, rfl⟩
  · exact ⟨_, rfl, rfl⟩
  · exact ⟨_, rfl, rfl⟩
  · exact ⟨_, rfl, rfl⟩
def Next6 (w : World) (g : Nat) (e : Ending) (w' : World) : Prop :=
  ∃ (r : Int) (u : ByteArray), e = .returned (.int .i64 r) ∧ 0 ≤ r ∧ r < 6 ∧ Hid (u.size = 1) ∧ w'.cell? ⟨w.heap.size, r.toNat, none⟩ = some (.string u) ∧ Src w' g ∧ Chg w w' g (g + 1)
theorem next_six {w : World} {g : Nat} (h : Src w g) :
    Calls Tryd.prog 57 #[.pointer (some ⟨g, 0, none⟩), .int .i64 6] (w.alloc (.cells six 9)).drew (Next6 w g) := by
  have hc : Chg w (w.alloc (.cells six 9)).drew 0 0 := Chg.alloc_drew _ _ _ _
  refine (l01Next g 6 _ (h.still hc) (by omega)).mono ?_
  rintro e w' ⟨r, rfl, ⟨r0, r1⟩, s, c⟩
  have r2 := r1 (by omega)
  have hg := h.lt
  have hsz : w.heap.size < (w.alloc (.cells six 9)).drew.heap.size := by show _ < (w.heap.push _).size; simp
  have hb := c.block w.heap.size hsz (by omega)
  have hbk : w'.heap[w.heap.size]? = some (.cells six 9 (0, 0)) := hb.trans (heap_alloc_new w _)
  obtain ⟨u, hu, hz⟩ := six_at r r0 r2
  exact ⟨r, u, rfl, r0, r2, hu, by rw [cell_of_row w' _ _ _ _ _ hbk]; exact hz, s, (hc.any _ _).trans c⟩

set_option maxHeartbeats 3200000 in
/-- spec.l02Damage -/
theorem l02Damage (g : Nat) (t : ByteArray) (w : World) (h : Src w g) (ht : t.size ≤ 1024) :
    Calls Tryd.prog 40 #[.pointer (some ⟨g, 0, none⟩), .string t] w (DrewStr g 2048 w) := by
  go_enter Tryd.func40, Tryd.ntmps40
  go_wp2_with fail
  refine (l01Next g ((t.size : Int) + 1) _ h (by omega)).mono ?_
  rintro e w1 ⟨r1, rfl, ⟨r10, r11⟩, s1, k1⟩
  have r12 := r11 (by omega)
  obtain ⟨k, rfl⟩ := Int.eq_ofNat_of_zero_le r10
  have hkt : k ≤ t.size := by omega
  clear r11 r10 r12 h
  go_wp2_with fail
  refine (l01Next g 8 _ s1 (by omega)).mono ?_
  rintro e w2 ⟨r2, rfl, ⟨r20, r21⟩, s2, k2⟩
  have c2 := k1.trans k2
  have hkI : (k : Int) ≤ (t.size : Int) := by omega
  clear r21 s1 k1 k2
  by_cases q0 : r2 = 0
  · subst q0
    go_wp2_with fail
    go_ret
    exact ⟨_, rfl, by rw [ByteArray.size_extract]; omega, s2, c2⟩
  have t0 : (r2 == 0) = false := by simpa using q0
  by_cases q1 : r2 = 1
  · subst q1
    have HN1 : Hid (Calls Tryd.prog 57 #[.pointer (some ⟨g, 0, none⟩), .int .i64 6] (w2.alloc (.cells #[.string ⟨#[46]⟩, .string ⟨#[65]⟩, .string ⟨#[50]⟩, .string ⟨#[32]⟩, .string ⟨#[120]⟩, .string ⟨#[84]⟩] 9)).drew (Next6 w2 g)) := next_six s2
    have HN3 := Lib.hid (l01Next g 6 w2.drew (s2.still (Chg.drewN _ 1 0 0)) (by omega))
    have KA : Hid (∀ (u : ByteArray), u.size = 1 → (∀ W : World, (Op.stringOp .add (t.extract 0 k) u).run Tryd.prog W = .ok (.string (t.extract 0 k ++ u)) W) ∧ ∀ W : World, (Op.stringOp .add (t.extract 0 k ++ u) (t.extract k t.size)).run Tryd.prog W = .ok (.string (t.extract 0 k ++ u ++ t.extract k t.size)) W) := by
      intro u hu
      exact ⟨fun W => run_string_add_sum W _ _ (by rw [ByteArray.size_extract]; omega), fun W => run_string_add_sum W _ _ (by rw [ByteArray.size_append, ByteArray.size_extract, ByteArray.size_extract]; omega)⟩
    go_wp2_with fail
    go_region_with (go_at_call 57; first | (go_fit HN1.out; rintro e w5 ⟨r5, u, rfl, r50, r51, hu, hz, s5, c5⟩; obtain ⟨ka1, ka2⟩ := KA.out u hu.out) | (go_fit HN3.out; rintro e w5 ⟨r5, rfl, ⟨r50, r51⟩, s5, c5⟩; have r52 := r51 (by omega); obtain ⟨u, hu', hz⟩ := six_at r5 r50 r52; have hu : Hid (u.size = 1) := hu'; clear hu'; obtain ⟨ka1, ka2⟩ := KA.out u hu.out; have hy : (#[.string ⟨#[46]⟩, .string ⟨#[65]⟩, .string ⟨#[50]⟩, .string ⟨#[32]⟩, .string ⟨#[120]⟩, .string ⟨#[84]⟩] : Array Value)[r5.toNat]? = some (.string u) := hz; have hx : ([.string ⟨#[46]⟩, .string ⟨#[65]⟩, .string ⟨#[50]⟩, .string ⟨#[32]⟩, .string ⟨#[120]⟩, .string ⟨#[84]⟩] : List Value)[r5.toNat]? = some (.string u) := (by simpa using hy); have hw : ∀ h : r5.toNat < ([.string ⟨#[46]⟩, .string ⟨#[65]⟩, .string ⟨#[50]⟩, .string ⟨#[32]⟩, .string ⟨#[120]⟩, .string ⟨#[84]⟩] : List Value).length, ([.string ⟨#[46]⟩, .string ⟨#[65]⟩, .string ⟨#[50]⟩, .string ⟨#[32]⟩, .string ⟨#[120]⟩, .string ⟨#[84]⟩] : List Value)[r5.toNat]'h = .string u := (fun h => Option.some.inj ((List.getElem?_eq_getElem h).symm.trans hx)); have hv : ∀ fr, (w5.alloc (.cells #[.string ⟨#[46]⟩, .string ⟨#[65]⟩, .string ⟨#[50]⟩, .string ⟨#[32]⟩, .string ⟨#[120]⟩, .string ⟨#[84]⟩] 9 fr)).cell? ⟨w5.heap.size, r5.toNat, none⟩ = some (.string u) := fun fr => (World.cell?_alloc_mark w5 _ _ fr _).trans hz))
    all_goals
      go_wp2
      go_ret
      have hus := hu.out
      refine ⟨_, rfl, by rw [ByteArray.size_append, ByteArray.size_append, ByteArray.size_extract, ByteArray.size_extract]; omega, ?_, ?_⟩
      · first | exact s5 | exact s5.still (Chg.of_alloc _ _ _ _)
      · first | exact c2.trans c5 | exact (c2.trans c5).trans (Chg.of_alloc _ _ _ _) | exact ((c2.trans (Chg.drewN _ 1 _ _)).trans c5).trans (Chg.of_alloc _ _ _ _)
  have t1 : (r2 == 1) = false := by simpa using q1
  by_cases q2 : r2 = 2
  · subst q2
    by_cases hlt : k < t.size
    · have hltI : (k : Int) < (t.size : Int) := by omega
      have e1 : IntKind.i64.wrap ((k : Int) + 1) = (k : Int) + 1 := IntWalk.i64_in _ (by omega)
      have e2 : ((k : Int) + 1).toNat = k + 1 := by omega
      have e3 : (0 : Int) ≤ (k : Int) + 1 := by omega
      have e4 : (k : Int) + 1 ≤ (t.size : Int) := by omega
      have ka : ∀ W : World, (Op.stringOp .add (t.extract 0 k) (t.extract (k + 1) t.size)).run Tryd.prog W = .ok (.string (t.extract 0 k ++ t.extract (k + 1) t.size)) W := fun W => run_string_add_sum W _ _ (by rw [ByteArray.size_extract, ByteArray.size_extract]; omega)
      go_wp2_with fail
      go_quiet (fail)
      go_wp2
      go_ret
      exact ⟨_, rfl, by rw [ByteArray.size_append, ByteArray.size_extract, ByteArray.size_extract]; omega, s2.still (Chg.drewN _ _ _ _), c2.trans (Chg.drewN _ _ _ _)⟩
    · have hltI : ¬ (k : Int) < (t.size : Int) := by omega
      go_wp2_with fail
      go_ret
      exact ⟨t, rfl, by omega, s2, c2⟩
  have t2 : (r2 == 2) = false := by simpa using q2
  go_wp2_with fail
  go_ret
  exact ⟨t, rfl, by omega, s2, c2⟩

set_option maxHeartbeats 1000000 in
/-- spec.DrawReadHand -/
theorem DrawReadHand (A : Option Addr) (n c : Nat) (w : World) (h : Bytes w A n) (hn : n ≤ 1048576) :
    Calls Tryd.prog 13 #[.slice A n c] w fun e w' => ∃ u : ByteArray, e = .returned (.string u) ∧ u.size ≤ 2048 ∧ Below w.heap.size w w' := by
  go_enter Tryd.func13, Tryd.ntmps13
  go_wp2_with fail
  refine (l01From A n c _ h hn).mono ?_
  rintro e w1 ⟨rfl, s1, b1⟩
  have hg := s1.lt
  go_wp2_with fail
  refine (l01DrawAny _ _ s1).mono ?_
  rintro e w2 ⟨v2, z2, rfl, hl2, o2, s2, k2⟩
  obtain ⟨A3, c3, rfl, hc3, hp3, ow3⟩ := o2.form_at rfl
  go_wp2_with fail
  refine (spec_HandText A3 z2.length c3 z2 _ _ _ ow3.rd (by omega)).mono ?_
  rintro e w4 ⟨rfl, c4⟩
  have s4 := s2.still c4
  have k4 := k2.trans (c4.any w.heap.size (w.heap.size + 1))
  have hts : (⟨(handText z2).toArray⟩ : ByteArray).size ≤ 1024 := by
    rw [size_list]
    show (handText z2).length ≤ _
    unfold handText
    split
    · rename_i hh
      rw [textH_length hh]; omega
    · simp
  go_wp2_with fail
  refine (l02Damage _ _ _ s4 hts).mono ?_
  rintro e w5 ⟨u, rfl, hu, s5, k5⟩
  go_wp2_with fail
  go_ret
  exact ⟨u, rfl, hu, below_draw b1 (k4.trans k5) (Nat.le_refl _) hg⟩

end Go.Proofs.YteojdlacdnfgiaaDoor.Lib1
