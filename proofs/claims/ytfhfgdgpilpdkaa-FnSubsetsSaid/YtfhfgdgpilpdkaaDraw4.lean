/- Chapter 4: the draws of card lists and their subsets. -/
import Derived.Test.YtfhfgdgpilpdkaaSub4
import Derived.Test.YtfhfgdgpilpdkaaDraws
namespace Go.Proofs.Ytfhfgdgpilpdkaa.Lib1
open Go.RowKit
set_option maxRecDepth 100000

set_option maxHeartbeats 1000000 in
theorem l04DrawList (g : Nat) (w : World) (h : Src w g) :
    Calls Try.prog 92 #[.pointer (some ⟨g, 0, none⟩)] w (DrewN g w fun n => n ≤ 52) := by
  have hgB : g < w.heap.size := h.lt
  go_enter Try.func92, Try.ntmps92
  go_wp2_with fail
  refine (l01Shuffled g _ h).mono ?_
  rintro e w1 ⟨A, c, zs, rfl, hc, ho, hs, hch⟩
  go_wp2_with fail
  refine (l01Next g 14 _ hs (by omega)).mono ?_
  rintro e w2 ⟨r2, rfl, ⟨r20, r21⟩, s2, c2⟩
  have r22 := r21 (by omega)
  obtain ⟨n, rfl⟩ := Int.eq_ofNat_of_zero_le r20
  have ho2 := ho.chg c2 (.inr (by omega))
  have k2 := hch.trans c2
  have hn : n ≤ 13 := by omega
  have hcI : (n : Int) ≤ (c : Int) := by omega
  have hr := ho2.rd.1
  obtain ⟨b, cs, rfl, _⟩ := ho2.2 (by omega)
  have hrd : Rd w2 w.heap.size w1.heap.size (some ⟨b, 0, none⟩) n (zs.take n) := ho2.rd.take (by omega)
  clear hr ho hs hch c2 ho2 r21 r22
  go_wp2_with fail
  refine (l01Sorted _ n c _ _ _ _ hrd (by omega)).mono ?_
  rintro e w3 ⟨v3, ys, rfl, hl, ho3, hb3⟩
  have k3 := chg_then k2 hb3
  have s3 := s2.below hb3
  have o3 := ho3.more k2.size
  clear ho3 hb3 k2 s2 hrd
  go_wp2_with fail
  refine (l01Next g 20 _ s3 (by omega)).mono ?_
  rintro e w5 ⟨r5, rfl, ⟨r50, r51⟩, s5, c5⟩
  have o5 := o3.chg c5 hgB
  have k5 := k3.trans c5
  have z5 := k5.size
  have hl' : ys.length ≤ 13 := by omega
  clear s3 o3 k3 c5 r51 hl
  obtain ⟨A5, c5, rfl, hc5, hp5, ow5⟩ := o5.form_at rfl
  by_cases q0 : r5 = 0
  · subst q0
    go_wp2_with (at_builtin; refine wpList_push rfl _ _ rfl w.heap.size _ _ rfl o5 52 rfl (by omega) z5 ?_; intro v6 w6 o6 b6)
    go_ret
    exact ⟨_, _, rfl, by simp; omega, o6, s5.under b6 hgB, chg_under k5 b6 (Nat.le_refl _)⟩
  have t0 : (r5 == 0) = false := by simpa using q0
  by_cases q1 : r5 = 1
  · subst q1
    have om := Lib.hid (OwnV.single w5 z5 51)
    have zm : w.heap.size ≤ (w5.alloc (.cells #[.int .i64 51] 2)).heap.size := by simp; omega
    have rm := (ow5.rd.still (Chg.of_alloc w5 (.cells #[.int .i64 51] 2) 0 0))
    go_wp2_with (at_builtin; refine wpList_cat rfl _ _ rfl w.heap.size _ [51] rfl om.out _ _ A5 _ c5 _ rfl hp5.nil rm (by simp; omega) zm ?_; intro v6 w6 o6 b6)
    go_ret
    exact ⟨_, _, rfl, by simp; omega, o6, (s5.still (Chg.of_alloc _ _ 0 0)).under b6 hgB, chg_under (k5.trans (Chg.of_alloc _ _ _ _)) b6 (Nat.le_refl _)⟩
  have t1 : (r5 == 1) = false := by simpa using q1
  by_cases q2 : r5 = 2
  · subst q2
    go_wp2_with (go_at_call 108; refine (l04All _).mono ?_; rintro e w6 ⟨v6, rfl, o6, b6⟩)
    go_ret
    exact ⟨_, _, rfl, by rw [allL_length]; exact Nat.le_refl _, o6.more z5, s5.below b6, chg_then k5 b6⟩
  have t2 : (r5 == 2) = false := by simpa using q2
  go_wp2_with fail
  go_ret
  exact ⟨_, _, rfl, by omega, o5, s5, k5⟩

set_option maxHeartbeats 1000000 in
theorem l04DrawSubset (g : Nat) (A : Option Addr) (n c : Nat) (zs : List Int) (lo hi : Nat) (w : World) (h : Src w g) (hr : Rd w lo hi A n zs) (hlo : g < lo) (hn : n ≤ 52) :
    Calls Try.prog 93 #[.pointer (some ⟨g, 0, none⟩), .slice A n c] w (DrewN g w fun m => m ≤ 53) := by
  have hgB : g < w.heap.size := h.lt
  go_enter Try.func93, Try.ntmps93
  go_wp2_with fail
  go_loopw [5, 6] (fun v i wr => ∃ (k : Nat) (ys : List Int), k ≤ n ∧ i = .int .i64 k ∧ OwnV wr w.heap.size v ys ∧ ys.length ≤ k ∧ Src wr g ∧ Chg w wr g (g + 1)) (fun _ i _ => n - (intOf i).toNat)
  case atStart => exact ⟨0, [], Nat.zero_le _, rfl, OwnV.made w (Nat.le_refl _), Nat.le_refl _, h.still (Chg.of_alloc _ _ _ _), Chg.of_alloc _ _ _ _⟩
  case round =>
    obtain ⟨k, ys, hk, rfl, ho, hyl, hs, hc⟩ := hrel
    by_cases hlt : k < n
    · have hkl : (k : Int) < (n : Int) := by omega
      go_wp2_with fail
      refine (l01Next g 2 _ hs (by omega)).mono ?_
      rintro e w1 ⟨r1, rfl, ⟨r10, r11⟩, s1, c1⟩
      have o1 := ho.chg c1 hgB
      have k1 := hc.trans c1
      have z1 := k1.size
      obtain ⟨b, off, rfl, _, _, hcs⟩ := (hr.chg k1 (.inr (by omega))).2 (by omega)
      have hck := hcs k hlt
      clear ho hs hc c1 r11 hcs
      generalize zs.getD k 0 = z at hck
      by_cases q0 : r1 = 0
      · subst q0
        go_wp2_with (at_builtin; refine wpList_push rfl _ _ rfl w.heap.size _ _ rfl o1 z rfl (by omega) z1 ?_; intro v6 w6 o6 b6)
        have s6 := s1.under b6 hgB
        have k6 := chg_under k1 b6 (Nat.le_refl _)
        clear o1 s1 k1 b6
        go_roundw
        case rel => exact ⟨k + 1, _, by omega, by go_num, o6, by simp; omega, s6, k6⟩
        case measure => simp [intOf]; omega
      · have t0 : (r1 == 0) = false := by simpa using q0
        go_wp2_with fail
        go_roundw
        case rel => exact ⟨k + 1, _, by omega, by go_num, o1, by omega, s1, k1⟩
        case measure => simp [intOf]; omega
    · obtain rfl : k = n := by omega
      go_wp2_with fail
      refine (l01Next g 16 _ hs (by omega)).mono ?_
      rintro e w1 ⟨r1, rfl, ⟨r10, r11⟩, s1, c1⟩
      have o1 := ho.chg c1 hgB
      have k1 := hc.trans c1
      clear ho hs hc c1 r11
      by_cases q0 : r1 = 0
      · subst q0
        go_wp2_with fail
        refine (l01DrawCard g _ s1).mono ?_
        rintro e w2 ⟨r2, rfl, _, s2, c2⟩
        have o2 := o1.chg c2 hgB
        have k2 := k1.trans c2
        have z2 := k2.size
        clear o1 s1 k1 c2
        go_wp2_with (at_builtin; refine wpList_push rfl _ _ rfl w.heap.size _ _ rfl o2 r2 rfl (by omega) z2 ?_; intro v6 w6 o6 b6)
        go_ret
        exact ⟨_, _, rfl, by simp; omega, o6, s2.under b6 hgB, chg_under k2 b6 (Nat.le_refl _)⟩
      · have t0 : (r1 == 0) = false := by simpa using q0
        go_wp2_with fail
        go_ret
        exact ⟨_, _, rfl, by omega, o1, s1, k1⟩

/-- Two lists are drawn. -/
def DrewLL (w : World) (e : Ending) (w' : World) : Prop :=
  ∃ (X : Option Addr) (cx : Nat) (L : List Int) (Y : Option Addr) (cy : Nat) (S : List Int), e = .returned (.tuple #[.slice X L.length cx, .slice Y S.length cy]) ∧ L.length ≤ 52 ∧ S.length ≤ 53 ∧ Plain X cx ∧ Plain Y cy ∧ S.length ≤ cy ∧
    Rd w' w.heap.size w'.heap.size X L.length L ∧ Rd w' w.heap.size w'.heap.size Y S.length S ∧ Below w.heap.size w w'
set_option maxHeartbeats 1000000 in
theorem DrawRankSubset (A : Option Addr) (n c : Nat) (w : World) (h : Bytes w A n) (hn : n ≤ 1048576) :
    Calls Try.prog 34 #[.slice A n c] w (DrewLL w) := by
  go_enter Try.func34, Try.ntmps34
  go_wp2_with fail
  refine (l01From A n c _ h hn).mono ?_
  rintro e w1 ⟨rfl, s1, b1⟩
  have hg := s1.lt
  go_wp2_with fail
  refine (l04DrawList _ _ s1).mono ?_
  rintro e w2 ⟨v2, L, rfl, hL, o2, s2, c2⟩
  obtain ⟨X, cx, rfl, _, px, ox⟩ := o2.form
  have b2 := below_draw b1 c2 (Nat.le_refl _) hg
  have z2 := c2.size
  clear o2 c2 b1
  go_wp2_with fail
  refine (l04DrawSubset _ X L.length cx L _ _ _ s2 ox.rd hg hL).mono ?_
  rintro e w3 ⟨v3, S, rfl, hS, o3, s3, c3⟩
  obtain ⟨Y, cy, rfl, ly, py, oy⟩ := o3.form
  have b3 := below_draw b2 c3 (Nat.le_refl _) s2.lt
  have ox3 := ox.rd.chg c3 (.inr (by omega))
  have z3 := c3.size
  clear o3 c3 b2 ox
  go_wp2_with fail
  go_ret2
  exact ⟨X, cx, L, Y, cy, S, rfl, hL, hS, px, py, ly, ox3.more (by omega) (by omega), oy.rd.more (by omega) (Nat.le_refl _), b3⟩
end Go.Proofs.Ytfhfgdgpilpdkaa.Lib1
