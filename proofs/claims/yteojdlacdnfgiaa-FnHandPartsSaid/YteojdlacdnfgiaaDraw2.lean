/- Contracts of the draws of chapter 2: a hand with many high cards, a hand's text that may be damaged. -/
import Derived.Test.YteojdlacdnfgiaaDraws
import Derived.Test.YteojdlacdnfgiaaTwo
import Derived.Deep.RegionWith
import Derived.Deep.DeepFit
import Derived.WalkSpells
namespace Go.Proofs.Yteojdlacdnfgiaa.Lib1
open Go.RowKit
set_option maxRecDepth 100000

set_option maxHeartbeats 3200000 in
/-- spec.l02DrawStrong -/
theorem l02DrawStrong (g : Nat) (w : World) (h : Src w g) :
    Calls Try.prog 46 #[.pointer (some ⟨g, 0, none⟩)] w (DrewN g w fun n => n ≤ 15) := by
  have hg := h.lt
  go_enter Try.func46, Try.ntmps46
  go_wp2_with fail
  refine (l01Next g 2 _ h (by omega)).mono ?_
  rintro e w1 ⟨r1, rfl, ⟨r10, r11⟩, s1, k1⟩
  by_cases p0 : r1 = 0
  · subst p0
    go_wp2_with fail
    refine (l01DrawAny g _ s1).mono ?_
    rintro e w2 ⟨v2, z2, rfl, hl2, o2, s2, k2⟩
    go_wp2_with fail
    go_ret
    exact ⟨_, z2, rfl, hl2, o2.more k1.size, s2, k1.trans k2⟩
  · have t0 : (r1 == 0) = false := by simpa using p0
    clear p0 r11
    go_wp2_with fail
    refine (l01Next g 14 _ (s1.still (Chg.of_alloc _ _ _ _)) (by omega)).mono ?_
    rintro e w2 ⟨r2, rfl, ⟨r20, r21⟩, s2, k2⟩
    have r22 := r21 (by omega)
    obtain ⟨q2, rfl⟩ := Int.eq_ofNat_of_zero_le r20
    have hk2 : Chg w w2 g (g + 1) := (k1.trans (Chg.of_alloc _ _ _ _)).trans k2
    have hb1 : w.heap.size ≤ w1.heap.size := k1.size
    have ho2 : OwnV w2 w.heap.size (.slice (some ⟨w1.heap.size, 0, none⟩) 0 0) [] := (OwnV.made w1 hb1).chg k2 hg
    clear r21 k2 k1 s1
    go_wp2_with fail
    go_loopw [3, 4] (fun v i wr => ∃ (q : Nat) (zs : List Int), q ≤ 13 ∧ i = .int .i64 q ∧ Hid (zs.length + q ≤ 13) ∧ OwnV wr w.heap.size v zs ∧ Src wr g ∧ Chg w wr g (g + 1)) (fun _ i _ => (intOf i).toNat)
    case atStart => exact ⟨q2, [], by omega, rfl, by show _ ≤ _; simp; omega, ho2, s2, hk2⟩
    case round =>
      obtain ⟨q, zs, hq, rfl, hl, ho, hs, hc⟩ := hrel
      by_cases hq0 : 0 < q
      · have hq0I : (0 : Int) < (q : Int) := by omega
        go_wp2_with fail
        refine (l01Next g 4 _ hs (by omega)).mono ?_
        rintro e w3 ⟨a, rfl, ⟨a0, a1⟩, s3, k3⟩
        have a2 := a1 (by omega)
        go_wp2_with fail
        refine (l01Next g 6 _ s3 (by omega)).mono ?_
        rintro e w4 ⟨b, rfl, ⟨b0, b1⟩, s4, k4⟩
        have b2 := b1 (by omega)
        go_wp2_with fail
        refine (l01Next g 2 _ s4 (by omega)).mono ?_
        rintro e w5 ⟨d, rfl, ⟨d0, d1⟩, s5, k5⟩
        have d2 := d1 (by omega)
        have hp : 0 ≤ b * d ∧ b * d ≤ 5 := by
          have hd : d = 0 ∨ d = 1 := by omega
          rcases hd with rfl | rfl
          · simp
          · simp; omega
        obtain ⟨hp0, hp1⟩ := hp
        have k6 := (k3.trans k4).trans k5
        have o5 := ho.chg k6 hg
        have c5 := hc.trans k6
        clear a1 b1 d1 ho hc hs s3 s4 k3 k4 k5 k6
        obtain ⟨A, c, rfl, _, _, oa⟩ := o5.form_at rfl
        have hln := hl.out
        go_wp2_with fail
        refine (l01Has A zs.length c (13 * a + 12 - b * d) zs _ _ _ oa.rd (by omega)).mono ?_
        rintro e w' ⟨rfl, rfl⟩
        cases hhas : hasB zs (13 * a + 12 - b * d) with
        | true =>
          go_wp2_with fail
          go_roundw
          case rel => exact ⟨q - 1, zs, by omega, by rw [show ((q - 1 : Nat) : Int) = (q : Int) - 1 by omega], by show _ ≤ _; omega, o5, s5, c5⟩
          case measure => simp [intOf]; omega
        | false =>
          go_wp2_with fail
          refine (l01PutV A zs.length c (13 * a + 12 - b * d) zs _ _ _ oa.rd (by omega)).mono ?_
          rintro e w7 ⟨v7, rfl, o7, b7⟩
          have o8 := o7.more c5.size
          have s8 := s5.below b7
          have c8 := chg_then c5 b7
          clear o7 o5 oa s5 c5 b7
          go_wp2_with fail
          go_roundw
          case rel => exact ⟨q - 1, _, by omega, by rw [show ((q - 1 : Nat) : Int) = (q : Int) - 1 by omega], by show _ ≤ _; rw [ins_length]; omega, o8, s8, c8⟩
          case measure => simp [intOf]; omega
      · have hq0I : ¬ (0 : Int) < (q : Int) := by omega
        have hln := hl.out
        go_wp2
        go_ret
        exact ⟨_, zs, rfl, by omega, ho, hs, hc⟩

/-- A list is drawn. -/
def DrewS (w : World) (e : Ending) (w' : World) : Prop :=
  ∃ A c zs, e = .returned (.slice A zs.length c) ∧ zs.length ≤ 15 ∧ zs.length ≤ c ∧ Plain A c ∧ Own w' w.heap.size w'.heap.size A zs.length zs ∧ Below w.heap.size w w'

set_option maxHeartbeats 1000000 in
/-- spec.DrawLosersOf -/
theorem DrawLosersOf (A : Option Addr) (n c : Nat) (w : World) (h : Bytes w A n) (hn : n ≤ 1048576) :
    Calls Try.prog 11 #[.slice A n c] w (DrewS w) := by
  go_enter Try.func11, Try.ntmps11
  go_wp2_with fail
  refine (l01From A n c _ h hn).mono ?_
  rintro e w1 ⟨rfl, s1, b1⟩
  go_wp2_with fail
  refine (l02DrawStrong _ _ s1).mono ?_
  rintro e w2 ⟨v2, z2, rfl, hl2, o2, s2, k2⟩
  have o3 := o2.more b1.size
  obtain ⟨A3, c3, rfl, hc3, hp3, ow3⟩ := o3.form_at rfl
  go_wp2_with fail
  go_ret
  exact ⟨A3, c3, z2, rfl, hl2, hc3, hp3, ow3, below_draw b1 k2 (Nat.le_refl _) s1.lt⟩

set_option maxHeartbeats 1000000 in
/-- spec.DrawQuickTricks -/
theorem DrawQuickTricks (A : Option Addr) (n c : Nat) (w : World) (h : Bytes w A n) (hn : n ≤ 1048576) :
    Calls Try.prog 19 #[.slice A n c] w (DrewS w) := by
  go_enter Try.func19, Try.ntmps19
  go_wp2_with fail
  refine (l01From A n c _ h hn).mono ?_
  rintro e w1 ⟨rfl, s1, b1⟩
  go_wp2_with fail
  refine (l02DrawStrong _ _ s1).mono ?_
  rintro e w2 ⟨v2, z2, rfl, hl2, o2, s2, k2⟩
  have o3 := o2.more b1.size
  obtain ⟨A3, c3, rfl, hc3, hp3, ow3⟩ := o3.form_at rfl
  go_wp2_with fail
  go_ret
  exact ⟨A3, c3, z2, rfl, hl2, hc3, hp3, ow3, below_draw b1 k2 (Nat.le_refl _) s1.lt⟩


/-- A string is drawn. -/
def DrewStr (g m : Nat) (w : World) (e : Ending) (w' : World) : Prop := ∃ u : ByteArray, e = .returned (.string u) ∧ u.size ≤ m ∧ Src w' g ∧ Chg w w' g (g + 1)

/-- The six texts that a damaged text may get. -/
def six : Array Value := #[.string ⟨#[46]⟩, .string ⟨#[65]⟩, .string ⟨#[50]⟩, .string ⟨#[32]⟩, .string ⟨#[120]⟩, .string ⟨#[84]⟩]
theorem six_at (r : Int) (h0 : 0 ≤ r) (h1 : r < 6) : ∃ u : ByteArray, u.size = 1 ∧ six[r.toNat]? = some (.string u) := by
  have hr : r = 0 ∨ r = 1 ∨ r = 2 ∨ r = 3 ∨ r = 4 ∨ r = 5 := by omega
  rcases hr with rfl | rfl | rfl | rfl | rfl | rfl
  · exact ⟨_, rfl, rfl⟩
  · exact ⟨_, rfl, rfl⟩
  · exact ⟨_, rfl, rfl⟩
  · exact ⟨_, rfl, rfl⟩
  · exact ⟨_, rfl, rfl⟩
  · exact ⟨_, rfl, rfl⟩
def Next6 (w : World) (g : Nat) (e : Ending) (w' : World) : Prop :=
  ∃ (r : Int) (u : ByteArray), e = .returned (.int .i64 r) ∧ 0 ≤ r ∧ r < 6 ∧ Hid (u.size = 1) ∧ w'.cell? ⟨w.heap.size, r.toNat, none⟩ = some (.string u) ∧ Src w' g ∧ Chg w w' g (g + 1)
theorem next_six {w : World} {g : Nat} (h : Src w g) :
    Calls Try.prog 77 #[.pointer (some ⟨g, 0, none⟩), .int .i64 6] (w.alloc (.cells six 9)).drew (Next6 w g) := by
  have hc : Chg w (w.alloc (.cells six 9)).drew 0 0 := Chg.alloc_drew _ _ _ _
  refine (l01Next g 6 _ (h.still hc) (by omega)).mono ?_
  rintro e w' ⟨r, rfl, ⟨r0, r1⟩, s, c⟩
  have r2 := r1 (by omega)
  have hg := h.lt
  have hsz : w.heap.size < (w.alloc (.cells six 9)).drew.heap.size := by show _ < (w.heap.push _).size; simp
  have hb := c.block w.heap.size hsz (by omega)
  have hbk : w'.heap[w.heap.size]? = some (.cells six 9 (0, 0)) := hb.trans (heap_alloc_new w _)
  obtain ⟨u, hu, hz⟩ := six_at r r0 r2
  exact ⟨r, u, rfl, r0, r2, hu, by rw [cell_of_row w' _ _ _ _ _ hbk]; exact hz, s, (hc.any _ _).trans c⟩



end Go.Proofs.Yteojdlacdnfgiaa.Lib1
