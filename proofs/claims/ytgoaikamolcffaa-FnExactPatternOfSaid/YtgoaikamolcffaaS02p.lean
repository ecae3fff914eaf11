/- Contracts of the model's l02Down and PatternOf of chapter 2. -/
import Derived.Test.YtgoaikamolcffaaS02
namespace Go.Proofs.Ytgoaikamolcffaa.Lib1
open Go.RowKit

def ltB (x : Int) (l : List Int) : Bool := l.any fun z => decide (z < x)
def insDTo (x : Int) (l : List Int) : List Int := if ltB x l then insD x l else l
theorem insD_not (x : Int) : ∀ l : List Int, ltB x l = false → insD x l = l ++ [x]
  | [], _ => rfl
  | z :: l, h => by
    simp only [ltB, List.any_cons, Bool.or_eq_false_iff, decide_eq_false_iff_not] at h
    unfold insD; rw [if_neg h.1, insD_not x l h.2]; rfl
theorem insD_snoc (x z : Int) : ∀ l : List Int, ltB x l = true → insD x (l ++ [z]) = insD x l ++ [z]
  | [], h => by simp [ltB] at h
  | y :: l, h => by
    by_cases e : y < x
    · simp [insD, e]
    · have h' : ltB x l = true := by simpa [ltB, e] using h
      simp [insD, e, insD_snoc x z l h']
theorem insD_snoc_now (x z : Int) (hz : z < x) : ∀ l : List Int, ltB x l = false → insD x (l ++ [z]) = l ++ [x] ++ [z]
  | [], _ => by simp [insD, hz]
  | y :: l, h => by
    simp only [ltB, List.any_cons, Bool.or_eq_false_iff, decide_eq_false_iff_not] at h
    simp [insD, h.1, insD_snoc_now x z hz l h.2]
theorem ltB_snoc (x z : Int) (l : List Int) : ltB x (l ++ [z]) = (ltB x l || decide (z < x)) := by simp [ltB]
theorem insDTo_done {x z : Int} {l : List Int} (h : ltB x l = true) : insDTo x (l ++ [z]) = insDTo x l ++ [z] := by
  simp [insDTo, ltB_snoc, h, insD_snoc x z l h]
theorem insDTo_now {x z : Int} {l : List Int} (h : ltB x l = false) (hz : z < x) : insDTo x (l ++ [z]) = insDTo x l ++ [x] ++ [z] := by
  simp only [insDTo, ltB_snoc, h, hz, decide_true, Bool.false_or, if_true, insD_snoc_now x z hz l h]; simp
theorem insDTo_not {x z : Int} {l : List Int} (h : ltB x l = false) (hz : ¬ z < x) : insDTo x (l ++ [z]) = insDTo x l ++ [z] := by
  simp [insDTo, ltB_snoc, h, hz]
theorem insDTo_le (x : Int) (l : List Int) : (insDTo x l).length ≤ l.length + 1 := by
  unfold insDTo; split
  · rw [insD_length]; omega
  · omega
theorem down_take {zs : List Int} {k : Nat} (h : k < zs.length) : downF (zs.take (k + 1)) = insD (zs.getD k 0) (downF (zs.take k)) := by
  rw [take_snoc zs k h]; simp [downF]

theorem below_drewN {B : Nat} {a w : World} (h : Below B a w) (q : Nat) : Below B a (w.drewN q) := ⟨h.os, h.tape, h.output, h.size, h.block⟩
theorem OwnV.still {w w' : World} {base : Nat} {v : Value} {zs : List Int} (h : OwnV w base v zs) (c : Chg w w' 0 0) : OwnV w' base v zs := h.chg c (Nat.zero_le _)

set_option maxHeartbeats 3200000 in
/-- spec.l02Down -/
theorem l02Down (A : Option Addr) (n c : Nat) (zs : List Int) (lo hi : Nat) (w : World) (h : Rd w lo hi A n zs) (hn : n ≤ 1048000) :
    Calls Try.prog 51 #[.slice A n c] w (RetV w (downF zs)) := by
  have HL := Lib.hid h.1
  have ha := h.all
  clear h
  go_enter Try.func51, Try.ntmps51
  go_wp2
  go_loopw [3, 4] (fun v i wr => ∃ k : Nat, k ≤ n ∧ i = .int .i64 k ∧ OwnV wr w.heap.size v (downF (zs.take k)) ∧ Below w.heap.size w wr) (fun _ i _ => n - (intOf i).toNat)
  case atStart => exact ⟨0, Nat.zero_le _, rfl, OwnV.made w (Nat.le_refl _), (Below.refl _ _).alloc (Nat.le_refl _) _⟩
  case round =>
    obtain ⟨k, hk, rfl, ho, hb⟩ := hrel
    by_cases hlt : k < n
    · have hkz : k < zs.length := by rw [HL.out]; exact hlt
      obtain ⟨b, off, rfl, _, hbl, hcl⟩ := (ha.below hb (Nat.le_refl _)).2 (by omega)
      have hck0 := hcl k hlt
      have hkl : (k : Int) < (n : Int) := by omega
      have HD := Lib.hid (down_take hkz)
      have hlen0 : (downF (zs.take k)).length = k := by rw [downF_length]; simp; omega
      generalize downF (zs.take k) = os at HD ho hlen0
      generalize zs.getD k 0 = x at hck0 HD
      obtain ⟨D, dc, rfl, _, _, hown⟩ := ho.form_at hlen0
      have HO := Lib.hid hlen0
      have hrd := hown.rd
      have hsz0 := hb.size
      have HC : Hid (∀ wx, Below wr.heap.size wr wx → wx.cell? ⟨b, off + k, none⟩ = some (.int .i64 x)) := fun wx hbx => by
        rw [World.cell?_of_block (hbx.block b (by omega))]; exact hck0
      clear hcl hlen0 hown hck0
      obtain ⟨wo, hwo⟩ : ∃ wo, wo = wr := ⟨wr, rfl⟩
      subst hwo
      go_wp2
      go_loopw [5, 6, 7] (fun v d i wq => ∃ j : Nat, j ≤ k ∧ i = .int .i64 j ∧ d = .bool (ltB x (os.take j)) ∧ OwnV wq wo.heap.size v (insDTo x (os.take j)) ∧ Below wo.heap.size wo wq) (fun _ _ i _ => k - (intOf i).toNat)
      case atStart => exact ⟨0, Nat.zero_le _, rfl, rfl, OwnV.made wo (Nat.le_refl _), (Below.refl _ _).alloc (Nat.le_refl _) _⟩
      case round =>
        obtain ⟨j, hj, rfl, rfl, ho2, hb2⟩ := hrel
        have hlen : (insDTo x (os.take j)).length ≤ 1048572 := Nat.le_trans (insDTo_le _ _) (by simp; omega)
        have hcx := HC.out wr hb2
        have hsize := hb2.size
        by_cases hjk : j < k
        · have hjz : j < os.length := by rw [HO.out]; exact hjk
          obtain ⟨b', off', rfl, _, hbl', hcl'⟩ := (hrd.below hb2 (Nat.le_refl _)).2 (by omega)
          have hcj := hcl' j hjk
          have hjl : (j : Int) < (k : Int) := by omega
          have hts := Lib.hid (take_snoc os j hjz)
          cases hd : ltB x (os.take j) with
          | true =>
            have hs := Lib.hid (insDTo_done (z := os.getD j 0) hd)
            have hg : Hid (ltB x (os.take j ++ [os.getD j 0]) = true) := by show _ = true; rw [ltB_snoc, hd]; rfl
            generalize os.getD j 0 = z at hcj hs hg hts
            clear hcl' hd
            go_wp2
            go_quiet (fail)
            go_wp2_with (at_builtin; refine wpList_push rfl (.tmp 42) (.tmp 47) rfl wo.heap.size _ _ rfl (ho2.still (Chg.drewN _ _ _ _)) z rfl (by omega) hsize ?_; intro v' w1 ho1 hb1)
            rw [← hs.out, ← hts.out] at ho1
            rw [← hts.out] at hg
            have hb3 := (below_drewN hb2 _).trans hb1
            clear ho2 hb2 hb1 hs
            go_roundw
            case rel => exact ⟨j + 1, by omega, by go_num, congrArg Value.bool hg.out.symm, ho1, hb3⟩
            case measure => simp [intOf]; omega
          | false =>
            by_cases hz : os.getD j 0 < x
            · have hs := Lib.hid (insDTo_now (z := os.getD j 0) hd hz)
              have hg : Hid (ltB x (os.take j ++ [os.getD j 0]) = true) := by show _ = true; rw [ltB_snoc, hd, decide_eq_true hz]; rfl
              generalize os.getD j 0 = z at hcj hs hg hts hz
              have HJ : Hid (∀ wx, Below wo.heap.size wr wx → wx.cell? ⟨b', off' + j, none⟩ = some (.int .i64 z)) := fun wx hbx => by
                rw [World.cell?_of_block (hbx.block b' (by omega))]; exact hcj
              clear hcl' hd
              go_wp2
              go_quiet (fail)
              go_wp2_with (first | (at_builtin; refine wpList_push rfl (.tmp 35) (.tmp 40) rfl wo.heap.size _ _ rfl (ho2.still (Chg.drewN _ _ _ _)) x rfl (by omega) hsize ?_; intro v1 w1 ho1 hb1; have hc1 := HJ.out w1 ((below_drewN (Below.refl _ _) _).trans hb1); have hz1 := (hb2.trans ((below_drewN (Below.refl _ _) _).trans hb1)).size; have hl1 : (insDTo x (os.take j) ++ [x]).length ≤ 1048576 := by simp; omega) | (at_builtin; refine wpList_push rfl (.tmp 42) (.tmp 47) rfl wo.heap.size _ _ rfl ho1 z rfl hl1 hz1 ?_; intro v2 w2 ho3 hb3))
              rw [← hs.out, ← hts.out] at ho3
              rw [← hts.out] at hg
              have hb4 := (hb2.trans ((below_drewN (Below.refl _ _) _).trans hb1)).trans hb3
              clear ho2 hb2 hb1 hs ho1 hc1 hb3
              go_roundw
              case rel => exact ⟨j + 1, by omega, by go_num, congrArg Value.bool hg.out.symm, ho3, hb4⟩
              case measure => simp [intOf]; omega
            · have hs := Lib.hid (insDTo_not (z := os.getD j 0) hd hz)
              have hg : Hid (ltB x (os.take j ++ [os.getD j 0]) = false) := by show _ = false; rw [ltB_snoc, hd, decide_eq_false hz]; rfl
              generalize os.getD j 0 = z at hcj hs hg hts hz
              have ht : decide (z < x) = false := decide_eq_false hz
              clear hcl' hd
              go_wp2
              go_quiet (fail)
              go_wp2_with (at_builtin; refine wpList_push rfl (.tmp 42) (.tmp 47) rfl wo.heap.size _ _ rfl (ho2.still (Chg.drewN _ _ _ _)) z rfl (by omega) hsize ?_; intro v' w1 ho1 hb1)
              rw [← hs.out, ← hts.out] at ho1
              rw [← hts.out] at hg
              have hb3 := (below_drewN hb2 _).trans hb1
              clear ho2 hb2 hb1 hs
              go_roundw
              case rel => exact ⟨j + 1, by omega, by go_num, congrArg Value.bool hg.out.symm, ho1, hb3⟩
              case measure => simp [intOf]; omega
        · have htk : os.take j = os := List.take_of_length_le (by rw [HO.out]; omega)
          rw [htk] at ho2 hlen
          rw [htk]
          clear htk
          have hjl : ¬ (j : Int) < (k : Int) := by omega
          cases hd : ltB x os with
          | true =>
            have hs : Hid (insDTo x os = insD x os) := by simp [Hid, insDTo, hd]
            rw [hs.out, ← HD.out] at ho2
            clear hs hd
            go_wp2
            go_roundw
            case rel => exact ⟨k + 1, by omega, by go_num, ho2.more hsz0, hb.trans (hb2.mono hsz0)⟩
            case measure => simp [intOf]; omega
          | false =>
            have hs : Hid (insDTo x os ++ [x] = insD x os) := by show _ = _; rw [insD_not x os hd]; simp [insDTo, hd]
            clear hd
            go_wp2_with (at_builtin; refine wpList_push rfl (.tmp 51) (.tmp 56) rfl wo.heap.size _ _ rfl ho2 x rfl (by omega) hsize ?_; intro v' w1 ho1 hb1)
            rw [hs.out, ← HD.out] at ho1
            have hb3 := hb.trans ((hb2.trans hb1).mono hsz0)
            clear ho2 hb2 hb1
            go_roundw
            case rel => exact ⟨k + 1, by omega, by go_num, ho1.more hsz0, hb3⟩
            case measure => simp [intOf]; omega
    · rw [show zs.take k = zs from List.take_of_length_le (by rw [HL.out]; omega)] at ho
      go_wp2
      go_ret
      exact ⟨_, rfl, ho, hb⟩

set_option maxHeartbeats 1000000 in
/-- spec.PatternOf -/
theorem spec_PatternOf (A : Option Addr) (n c : Nat) (zs : List Int) (lo hi : Nat) (w : World) (h : Rd w lo hi A n zs) (hn : n ≤ 1048576) :
    Calls Try.prog 31 #[.slice A n c] w (RetS w (patternV zs)) := by
  cases hh : handB zs with
  | false =>
    rw [show patternV zs = [] by simp [patternV, hh]]
    go_enter Try.func31, Try.ntmps31
    go_wp2_with (go_at_call 17; refine (spec_IsHand _ _ _ zs lo hi _ h hn).mono ?_; rintro e w' ⟨rfl, hc⟩)
    go_ret
    exact RetS.empty_made _ _ hc
  | true =>
    rw [show patternV zs = downF (shapeF zs) by simp [patternV, hh]]
    have HB := Lib.hid (hand_nums h.1 hh)
    go_enter Try.func31, Try.ntmps31
    go_wp2_with fail
    refine (spec_IsHand _ _ _ zs lo hi _ h hn).mono ?_
    rintro e w1 ⟨rfl, c1⟩
    go_wp2_with fail
    refine (l02Shape _ _ _ zs lo hi _ (h.still c1) hn HB.out).mono ?_
    rintro e w2 ⟨v2, rfl, o2, b2⟩
    obtain ⟨B, bc, rfl, _, _, ob⟩ := o2.form_at (show (shapeF zs).length = 4 from rfl)
    go_wp2_with fail
    refine (l02Down B 4 bc (shapeF zs) _ _ _ ob.rd (by omega)).mono ?_
    rintro e w3 ⟨v3, rfl, hx⟩
    go_wp2_with fail
    go_ret
    exact RetS.of_later (c1.trans (Chg.of_below b2 0 0)) (RetS.of_V ⟨v3, rfl, hx⟩)

end Go.Proofs.Ytgoaikamolcffaa.Lib1
