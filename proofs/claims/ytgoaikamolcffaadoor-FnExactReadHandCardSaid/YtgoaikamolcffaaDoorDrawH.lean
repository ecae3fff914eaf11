/- Contracts of the draws of hands of chapter 1: shuffled cards, a sorted list, a hand, a list that may be none. What is drawn is left open but for its length. -/
import Derived.Test.YtgoaikamolcffaaDoorDraw
import Derived.Test.YtgoaikamolcffaaDoorHandS
import Derived.Test.YtgoaikamolcffaaDoorSearch
namespace Go.Proofs.YtgoaikamolcffaaDoor.Lib1
open Go.RowKit

theorem Src.below {w w' : World} {g : Nat} (h : Src w g) (b : Below w.heap.size w w') : Src w' g := h.still (Chg.of_below b 0 0)
theorem Own.set {w : World} {lo hi b n k : Nat} {zs : List Int} (h : Own w lo hi (some ⟨b, 0, none⟩) n zs) (hk : k < n) (z : Int) : Own (w.setCell ⟨b, k, none⟩ (.int .i64 z)) lo hi (some ⟨b, 0, none⟩) n (zs.set k z) := by
  refine h.store hk (by simpa using h.1) (fun j hj => ?_)
  have hl := h.1
  by_cases e : j = k
  · subst e; simp [List.getD, hl, hj]
  · rw [if_neg e]
    simp [List.getD, Ne.symm e]

theorem set_chg (w : World) (b i : Nat) (v : Value) : Chg w (w.setCell ⟨b, i, none⟩ v) b (b + 1) := chg_set w b i v
theorem Src_far {w : World} {g b i : Nat} (h : Src w g) (hb : g < b) (v : Value) : Src (w.setCell ⟨b, i, none⟩ v) g := h.chg (set_chg w b i v) (.inl hb)
/-- A store into a block that is new since w. -/
theorem chg_new {w w' : World} {lo hi b i : Nat} (h : Chg w w' lo hi) (hb : w.heap.size ≤ b) (v : Value) : Chg w (w'.setCell ⟨b, i, none⟩ v) lo hi :=
  ⟨h.os, h.tape, h.output, by simpa [World.setCell] using h.size, fun k hk ho => (Below.heap_setCell w' ⟨b, i, none⟩ v k (by show k ≠ b; omega)).trans (h.block k hk ho)⟩

/-- A list of m numbers is drawn from the source in block g. -/
def DrewL (g m : Nat) (w : World) (e : Ending) (w' : World) : Prop :=
  ∃ A c zs, e = .returned (.slice A m c) ∧ m ≤ c ∧ Own w' w.heap.size w'.heap.size A m zs ∧ Src w' g ∧ Chg w w' g (g + 1)

set_option maxHeartbeats 1600000 in
/-- spec.l01Shuffled -/
theorem l01Shuffled (g : Nat) (w : World) (h : Src w g) :
    Calls Tryd.prog 37 #[.pointer (some ⟨g, 0, none⟩)] w (DrewL g 52 w) := by
  have hg := h.lt
  go_enter Tryd.func37, Tryd.ntmps37
  go_wp2
  go_loopw [3, 4] (fun v i wr => ∃ (k : Nat) (zs : List Int), k ≤ 52 ∧ i = .int .i64 k ∧ Hid (zs.length = k) ∧ OwnV wr w.heap.size v zs ∧ Below w.heap.size w wr) (fun _ i _ => 52 - (intOf i).toNat)
  case atStart => exact ⟨0, [], by omega, rfl, rfl, OwnV.made w (Nat.le_refl _), (Below.refl _ _).alloc (Nat.le_refl _) _⟩
  case round =>
    obtain ⟨k, zs, hk, rfl, hl, ho, hb⟩ := hrel
    by_cases hlt : k < 52
    · have hltI : (k : Int) < 52 := by omega
      have hlen : zs.length ≤ 1048576 := by rw [hl.out]; omega
      have hsize := hb.size
      go_wp2_with (at_builtin; refine wpList_push rfl _ _ rfl w.heap.size _ _ rfl ho (k : Int) rfl hlen hsize ?_; intro v' w1 ho1 hb1)
      have hl1 : Hid ((zs ++ [(k : Int)]).length = k + 1) := by show _ = _; rw [List.length_append, hl.out]; rfl
      have hb2 := hb.trans hb1
      clear ho hb hb1
      go_roundw
      case rel => exact ⟨k + 1, _, by omega, by go_num, hl1, ho1, hb2⟩
      case measure => simp [intOf]; omega
    · have hltI : ¬ (k : Int) < 52 := by omega
      obtain ⟨A, c, rfl, hc, _, hown⟩ := ho.form_at (show zs.length = 52 by rw [hl.out]; omega)
      have hs1 := h.below hb
      have hch := Chg.of_below hb g (g + 1)
      clear ho hl
      generalize hH : wr.heap.size = H at hown
      have HH := Lib.hid hH
      clear hH
      go_wp2
      go_loopw [5] (fun i wr => ∃ (q : Nat) (ys : List Int), q ≤ 51 ∧ i = .int .i64 q ∧ Own wr w.heap.size H A 52 ys ∧ Src wr g ∧ Chg w wr g (g + 1) ∧ Hid (H ≤ wr.heap.size)) (fun i _ => (intOf i).toNat)
      case atStart => exact ⟨51, zs, by omega, rfl, hown, hs1, hch, Nat.le_of_eq HH.out.symm⟩
      case round =>
        obtain ⟨q, ys, hq, rfl, ho2, hs2, hc2, hz2⟩ := hrel
        by_cases hq0 : 0 < q
        · have hq0I : (0 : Int) < (q : Int) := by omega
          have hgH : g + 1 ≤ w.heap.size := hg
          go_wp2_with fail
          refine (l01Next g ((q : Int) + 1) _ hs2 (by omega)).mono ?_
          rintro e w3 ⟨r, rfl, ⟨r0, r1⟩, hs3, hc3⟩
          have r2 := r1 (by omega)
          have ho3 := ho2.chg hc3 (.inr hgH)
          have hch3 := hc2.trans hc3
          have hz3 : Hid (H ≤ w3.heap.size) := Nat.le_trans hz2.out hc3.size
          clear ho2 hc2 hc3 hs2 hz2
          obtain ⟨b, cs, rfl, hb1, hb2, hbk, hcs⟩ := ho3.2 (by omega)
          have cq : w3.cell? ⟨b, q, none⟩ = some (.int .i64 (ys.getD q 0)) := by rw [cell_of_row w3 b q cs _ _ hbk]; exact hcs q (by omega)
          have cr : w3.cell? ⟨b, r.toNat, none⟩ = some (.int .i64 (ys.getD r.toNat 0)) := by rw [cell_of_row w3 b r.toNat cs _ _ hbk]; exact hcs r.toNat (by omega)
          have fq : w3.frozen? ⟨b, q, none⟩ = false := by simp [World.frozen?, hbk]
          have fr : w3.frozen? ⟨b, r.toNat, none⟩ = false := by simp [World.frozen?, hbk]
          have ow := (ho3.set (k := q) (by omega) (ys.getD r.toNat 0)).set (k := r.toNat) (by omega) (ys.getD q 0)
          generalize ys.getD q 0 = y at cq ow
          generalize ys.getD r.toNat 0 = y' at cr ow
          have hsr : Hid (Src ((w3.setCell ⟨b, q, none⟩ (.int .i64 y')).setCell ⟨b, r.toNat, none⟩ (.int .i64 y)) g) := by
            have e1 := Src_far (i := q) hs3 (show g < b by omega) (.int .i64 y')
            exact Src_far (i := r.toNat) e1 (show g < b by omega) (.int .i64 y)
          have hchg : Chg w ((w3.setCell ⟨b, q, none⟩ (.int .i64 y')).setCell ⟨b, r.toNat, none⟩ (.int .i64 y)) g (g + 1) := chg_new (chg_new hch3 hb1 _) hb1 _
          have hz4 : Hid (H ≤ ((w3.setCell ⟨b, q, none⟩ (.int .i64 y')).setCell ⟨b, r.toNat, none⟩ (.int .i64 y)).heap.size) := by
            show _ ≤ _
            simpa [World.setCell] using hz3.out
          clear hbk hcs ho3 hch3 hs3 hz3 r1
          by_cases hrq : r.toNat = q
          · obtain rfl : r = (q : Int) := by omega
            rw [Int.toNat_natCast] at ow hsr hchg hz4 cr fr
            obtain rfl : y' = y := by rw [cq] at cr; injection cr with cr; injection cr with _ cr; exact cr.symm
            clear cr fr
            go_wp2_with fail
            go_roundw
            case rel => exact ⟨q - 1, _, by omega, by rw [show ((q - 1 : Nat) : Int) = (q : Int) - 1 by omega], ow, hsr, hchg, hz4⟩
            case measure => simp [intOf]; omega
          · go_wp2_with fail
            go_roundw
            case rel => exact ⟨q - 1, _, by omega, by rw [show ((q - 1 : Nat) : Int) = (q : Int) - 1 by omega], ow, hsr, hchg, hz4⟩
            case measure => simp [intOf]; omega
        · have hq0I : ¬ (0 : Int) < (q : Int) := by omega
          go_wp2_with fail
          go_ret
          exact ⟨A, c, ys, rfl, hc, ho2.more (Nat.le_refl _) hz2.out, hs2, hc2⟩

/-- A list of n numbers of the call's own is handed back. -/
def RetN (w : World) (n : Nat) (e : Ending) (w' : World) : Prop := ∃ v zs, e = .returned v ∧ zs.length = n ∧ OwnV w' w.heap.size v zs ∧ Below w.heap.size w w'

set_option maxHeartbeats 1000000 in
/-- spec.l01Sorted -/
theorem l01Sorted (A : Option Addr) (n c : Nat) (zs : List Int) (lo hi : Nat) (w : World) (h : Rd w lo hi A n zs) (hn : n ≤ 1048000) :
    Calls Tryd.prog 36 #[.slice A n c] w (RetN w n) := by
  have ha := h.all
  clear h
  go_enter Tryd.func36, Tryd.ntmps36
  go_wp2
  go_loopw [3, 4] (fun v i wr => ∃ (k : Nat) (ys : List Int), k ≤ n ∧ i = .int .i64 k ∧ Hid (ys.length = k) ∧ OwnV wr w.heap.size v ys ∧ Below w.heap.size w wr) (fun _ i _ => n - (intOf i).toNat)
  case atStart => exact ⟨0, [], Nat.zero_le _, rfl, rfl, OwnV.made w (Nat.le_refl _), (Below.refl _ _).alloc (Nat.le_refl _) _⟩
  case round =>
    obtain ⟨k, ys, hk, rfl, hl, ho, hb⟩ := hrel
    by_cases hlt : k < n
    · obtain ⟨b, off, rfl, _, _, hc⟩ := (ha.below hb (Nat.le_refl _)).2 (by omega)
      have hck := hc k hlt
      have hkl : (k : Int) < (n : Int) := by omega
      generalize zs.getD k 0 = z at hck
      obtain ⟨A', c', rfl, _, _, hown⟩ := ho.form_at hl.out
      clear hc
      go_wp2_with fail
      refine (l01PutV A' k c' z ys _ _ _ hown.rd (by omega)).mono ?_
      rintro e w1 ⟨v1, rfl, ho1, hb1⟩
      have ho2 := ho1.more hb.size
      have hb2 := hb.trans (hb1.mono hb.size)
      have hl2 : Hid ((ins z ys).length = k + 1) := by show _ = _; rw [ins_length, hl.out]
      clear ho hb hb1 ho1 hown
      go_wp2_with fail
      go_roundw
      case rel => exact ⟨k + 1, _, by omega, by go_num, hl2, ho2, hb2⟩
      case measure => simp [intOf]; omega
    · go_wp2
      go_ret
      exact ⟨_, ys, rfl, by rw [hl.out]; omega, ho, hb⟩

/-- A list of n numbers of the call's own is drawn. -/
def DrewN (g : Nat) (w : World) (P : Nat → Prop) (e : Ending) (w' : World) : Prop :=
  ∃ v zs, e = .returned v ∧ P zs.length ∧ OwnV w' w.heap.size v zs ∧ Src w' g ∧ Chg w w' g (g + 1)

/-- A call of the reading kind behind a draw. -/
theorem chg_then {w w1 w2 : World} {g : Nat} (h : Chg w w1 g (g + 1)) (b : Below w1.heap.size w1 w2) : Chg w w2 g (g + 1) := h.trans (Chg.of_below b _ _)

set_option maxHeartbeats 1000000 in
/-- spec.l01DrawHand -/
theorem l01DrawHand (g : Nat) (m : Int) (w : World) (h : Src w g) (h0 : 0 ≤ m) (h1 : m ≤ 52) :
    Calls Tryd.prog 34 #[.pointer (some ⟨g, 0, none⟩), .int .i64 m] w (DrewN g w fun n => n = m.toNat) := by
  obtain ⟨n, rfl⟩ := Int.eq_ofNat_of_zero_le h0
  have hn : n ≤ 52 := by omega
  rw [Int.toNat_natCast]
  go_enter Tryd.func34, Tryd.ntmps34
  go_wp2_with fail
  refine (l01Shuffled g _ h).mono ?_
  rintro e w1 ⟨A, c, zs, rfl, hc, ho, hs, hch⟩
  have hcI : (n : Int) ≤ (c : Int) := by omega
  have hr := (ho.rd).1
  obtain ⟨b, cs, rfl, _⟩ := ho.2 (by omega)
  have hrd : Rd w1 w.heap.size w1.heap.size (some ⟨b, 0, none⟩) n (zs.take n) := by
    refine ⟨by rw [List.length_take, hr]; omega, fun hp => ?_⟩
    obtain ⟨b', off, e, q1, q2, hq⟩ := ho.rd.2 (by omega)
    refine ⟨b', off, e, q1, q2, fun j hj => ?_⟩
    rw [hq j (by omega)]
    simp [List.getD, hj]
  clear hr
  go_wp2_with fail
  refine (l01Sorted _ n c _ _ _ _ hrd (by omega)).mono ?_
  rintro e w2 ⟨v, ys, rfl, hl, ho2, hb2⟩
  go_wp2_with fail
  go_ret
  exact ⟨_, ys, rfl, hl, ho2.more hch.size, hs.below hb2, chg_then hch hb2⟩

end Go.Proofs.YtgoaikamolcffaaDoor.Lib1
