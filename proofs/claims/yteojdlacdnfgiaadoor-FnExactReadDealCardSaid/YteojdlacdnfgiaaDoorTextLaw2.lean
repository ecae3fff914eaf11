/- The law FnHandText: a hand is recovered from its text, and an accepted text is the text of its hand; from contracts of the program's functions. -/
import Derived.Test.YteojdlacdnfgiaaDoorLaw2
import Derived.Test.YteojdlacdnfgiaaDoorDraws
namespace Go.Proofs.YteojdlacdnfgiaaDoor.Lib1
open Go.RowKit
set_option maxRecDepth 100000

theorem handText_no {zs : List Int} (h : handB zs = false) : handText zs = [] := by simp [handText, h]
theorem handText_le (zs : List Int) : (handText zs).length ≤ 64 := by
  cases h : handB zs
  · rw [handText_no h]; simp
  · have e : handText zs = textH zs := by simp [handText, h]
    rw [e, textH_length h]
    have := (hand_bounds h).1
    omega
theorem readV_le (l : List UInt8) : (readV l).length ≤ 64 := by
  cases h : readB l
  · rw [read_no h]; simp
  · obtain ⟨e, _⟩ := text_read h
    cases hh : handB (readV l)
    · rw [handText_no hh] at e
      subst e
      revert hh h
      decide
    · have := (hand_bounds hh).1
      omega

/-- The cell of the library's variable MaxLen holds some int (strings.Split comes by it). -/
def KM (w : World) : Prop := ∃ m, w.cell? ⟨0, 0, none⟩ = some (.int .i64 m)
theorem KM.below {w w' : World} (h : KM w) (b : Below w.heap.size w w') : KM w' := by -- of variable 0
  obtain ⟨m, hm⟩ := h
  exact ⟨m, by rw [World.cell?_of_block (b.block _ (lt_of_cell hm))]; exact hm⟩
/-- What is asked of the program's ReadHand. -/
def ImplRM (f : Nat) : Prop := -- with variable 0
  ∀ (s : ByteArray) (w : World), s.size ≤ 1048576 → KM w → Calls Tryd.prog f #[.string s] w (RetSB w (readV s.data.toList) (readB s.data.toList))

set_option maxHeartbeats 1600000 in
theorem law_HandTexts (IT : ImplT 9 handText) (IR : ImplRM 11) (A : Option Addr) (n c : Nat) (w : World) (h : Bytes w A n) (hA : A = none → c = 0) (hk0 : KM w) :
    Calls Tryd.prog 3 #[.slice A n c] w fun e w' => e = .returned (.bool true) ∧ Below w.heap.size w w' := by
  have hk := Lib.hid hk0
  clear hk0
  by_cases hn : 4096 < n
  · have hb := Lib.hid (decide_eq_true hn)
    go_enter Tryd.func3, Tryd.ntmps3
    go_wp2_with fail
    refine (big _ _ _ _).mono ?_
    rintro e w' ⟨rfl, rfl⟩
    rw [hb.out]
    go_wp2_with fail
    go_ret
    exact ⟨rfl, Below.refl _ _⟩
  · have hb := Lib.hid (decide_eq_false hn)
    go_enter Tryd.func3, Tryd.ntmps3
    go_wp2_with fail
    refine (big _ _ _ _).mono ?_
    rintro e w' ⟨rfl, rfl⟩
    rw [hb.out]
    go_wp2_with fail
    refine (DrawHandText A n c _ h (by omega)).mono ?_
    rintro e w1 ⟨D, dc, zs, rfl, hl, hdc, hp, od, b1⟩
    go_wp2_with fail
    refine (IT D zs.length dc zs _ _ _ od.rd (by omega) hdc hp).mono ?_
    rintro e w2 ⟨rfl, c2⟩
    have od2 := od.still c2
    have b2 := Chg.above b1 c2 b1.size (.inr rfl)
    clear od b1 c2
    have hL := handText_le zs
    cases hh : handB zs with
    | false =>
      rw [handText_no hh]
      have HH := Lib.hid hh
      clear hh hL
      go_wp2_with fail
      refine (spec_IsHand D zs.length dc zs _ _ _ od2.rd (by omega)).mono ?_
      rintro e w3 ⟨rfl, c3⟩
      rw [HH.out]
      have b3 := Chg.above b2 c3 b2.size (.inr rfl)
      clear b2 c3 od2
      have hB2 : Bytes w3 A n := h.chg (Chg.of_below b3 _ 0)
      go_wp2_with fail
      refine (other A n c 2 _ hB2 hA (by omega) (by omega) (by omega)).mono ?_
      rintro e w5 ⟨A5, c5, rfl, _, hB5, b5⟩
      have b5' := b3.trans (b5.mono b3.size)
      clear b5 b3
      go_wp2_with fail
      refine (DrawReadHand A5 (3 + n) c5 _ hB5 (by omega)).mono ?_
      rintro e w6 ⟨t, rfl, ht, b6⟩
      have b6' := b5'.trans (b6.mono b5'.size)
      clear b6 b5'
      go_wp2_with fail
      refine (IR _ _ (by omega) (hk.out.below b6')).mono ?_
      rintro e w7 ⟨X, xc, rfl, hxc, hpx, ox, c7⟩
      have b7 := Chg.above b6' c7 b6'.size (.inr rfl)
      clear c7 b6'
      have hxl := readV_le t.data.toList
      cases hok : readB t.data.toList with
      | true =>
        have hx : Hid ((⟨(handText (readV t.data.toList)).toArray⟩ : ByteArray) = t) := (bytes_ext (text_read hok).1.symm).symm
        clear hok
        generalize readV t.data.toList = v at hx hxc ox hxl
        go_wp2_with fail
        refine (IT _ _ _ v _ _ _ ox.rd (by omega) hxc hpx).mono ?_
        rintro e w8 ⟨rfl, c8⟩
        rw [hx.out]
        have b8 := Chg.above b7 c8 b7.size (.inr rfl)
        go_wp2_with fail
        go_ret
        exact ⟨rfl, b8⟩
      | false =>
        rw [read_no hok]
        go_wp2_with fail
        go_ret
        exact ⟨rfl, b7⟩
    | true =>
      obtain ⟨_, e2, e3⟩ := read_text hh
      have HH := Lib.hid hh
      have E2 := Lib.hid e2
      have E3 := Lib.hid e3
      clear hh e2 e3
      go_wp2_with fail
      refine (spec_IsHand D zs.length dc zs _ _ _ od2.rd (by omega)).mono ?_
      rintro e w3 ⟨rfl, c3⟩
      rw [HH.out]
      have b3 := Chg.above b2 c3 b2.size (.inr rfl)
      have od3 := od2.still c3
      clear b2 c3 od2
      go_wp2_with fail
      refine (IR _ _ (by simp [ByteArray.size]; omega) (hk.out.below b3)).mono ?_
      rintro e w4 ⟨X, xc, rfl, hxc, hpx, ox, c4⟩
      simp only [E2.out, E3.out] at ox hxc ⊢
      have b4 := Chg.above b3 c4 b3.size (.inr rfl)
      have od4 := od3.still c4
      clear b3 c4 od3
      go_wp2_with fail
      refine (likeInts X D _ _ xc dc zs _ _ _ _ _ ox.rd od4.rd (by omega)).mono ?_
      rintro e w4' ⟨rfl, c4'⟩
      have b4' := Chg.above b4 c4' b4.size (.inr rfl)
      clear b4 c4' od4 ox hxc hpx
      have hB2 : Bytes w4' A n := h.chg (Chg.of_below b4' _ 0)
      go_wp2_with fail
      refine (other A n c 2 _ hB2 hA (by omega) (by omega) (by omega)).mono ?_
      rintro e w5 ⟨A5, c5, rfl, _, hB5, b5⟩
      have b5' := b4'.trans (b5.mono b4'.size)
      clear b5 b4'
      go_wp2_with fail
      refine (DrawReadHand A5 (3 + n) c5 _ hB5 (by omega)).mono ?_
      rintro e w6 ⟨t, rfl, ht, b6⟩
      have b6' := b5'.trans (b6.mono b5'.size)
      clear b6 b5'
      go_wp2_with fail
      refine (IR _ _ (by omega) (hk.out.below b6')).mono ?_
      rintro e w7 ⟨X, xc, rfl, hxc, hpx, ox, c7⟩
      have b7 := Chg.above b6' c7 b6'.size (.inr rfl)
      clear c7 b6'
      have hxl := readV_le t.data.toList
      cases hok : readB t.data.toList with
      | true =>
        have hx : Hid ((⟨(handText (readV t.data.toList)).toArray⟩ : ByteArray) = t) := (bytes_ext (text_read hok).1.symm).symm
        clear hok
        generalize readV t.data.toList = v at hx hxc ox hxl
        go_wp2_with fail
        refine (IT _ _ _ v _ _ _ ox.rd (by omega) hxc hpx).mono ?_
        rintro e w8 ⟨rfl, c8⟩
        rw [hx.out]
        have b8 := Chg.above b7 c8 b7.size (.inr rfl)
        go_wp2_with fail
        go_ret
        exact ⟨rfl, b8⟩
      | false =>
        rw [read_no hok]
        go_wp2_with fail
        go_ret
        exact ⟨rfl, b7⟩

end Go.Proofs.YteojdlacdnfgiaaDoor.Lib1
