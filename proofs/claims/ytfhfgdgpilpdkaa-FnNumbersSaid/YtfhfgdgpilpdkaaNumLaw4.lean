/- The law of numbers: hands and deals are recovered from their numbers. -/
import Derived.Test.YtfhfgdgpilpdkaaDealO4
import Derived.Test.YtfhfgdgpilpdkaaDraw3b
namespace Go.Proofs.Ytfhfgdgpilpdkaa.Lib1
open Go.RowKit
set_option maxRecDepth 100000

/-! ### Lists -/
theorem hand_sub {S : List Int} (h : handB S = true) : S.Sublist (allL 52) := by
  have hr : risingB S = true := by simp [handB] at h; exact h.2
  exact sub_of_mem (rising_pair hr) (allL_pair 52) (fun z hz => (allL_mem 52 z).2 (by have := rising_mem hr z hz; omega))
theorem hand_back {S : List Int} (h : handB S = true) : handOfC S.length (handNo S) = 0 ∧ handOfV S.length (handNo S) = S := by
  have hs := hand_sub h
  have h13 := hand_len h
  have hlt := rankN_lt (allL 52) S hs
  obtain ⟨e1, e2⟩ := handOf_yes (n := (S.length : Int)) (num := handNo S) (by omega)
  have hc : unrC (allL 52) S.length (handNo S) = 0 := by
    rw [handNo_yes h]
    exact unrC_yes allL_rising ⟨by omega, by rw [allL_length]; omega⟩ ⟨by omega, by rw [show ((S.length : Nat) : Int).toNat = S.length by omega]; omega⟩
  refine ⟨e1.trans hc, ?_⟩
  rw [e2, unrV_yes hc, handNo_yes h, show ((S.length : Nat) : Int).toNat = S.length by omega, show ((rankN (allL 52) S : Nat) : Int).toNat = rankN (allL 52) S by omega]
  exact unrank_rank (allL 52) S hs
theorem rising_hand {S : List Int} (h : handB S = true) : risingB S = true := by simp [handB] at h; exact h.2
theorem cardsF_rising (zss : List (List Int)) : risingB (cardsF zss 52) = true :=
  rising_of (cardsF_strict zss 52) (fun z hz => by have := (cardsF_mem zss z 52).1 hz; omega)
theorem four_getD {zss : List (List Int)} (h : zss.length = 4) : zss = [zss.getD 0 [], zss.getD 1 [], zss.getD 2 [], zss.getD 3 []] := by
  match zss, h with
  | [a, b, c, d], _ => rfl
set_option maxHeartbeats 1000000 in
theorem deal_back {zss : List (List Int)} (h : dealB zss = true) : doC (cardsF zss 52) (dnV zss) = 0 ∧ doV (cardsF zss 52) (dnV zss) = zss := by
  obtain ⟨h4, hr, hn⟩ := (deal_iff zss).1 h
  rw [dnV_yes h]
  have hcs := cards_sort h
  have hmem : ∀ z, z ∈ cardsF zss 52 ↔ z ∈ zss.flatten := fun z => by rw [← hcs, mem_sortI]
  have hri := cardsF_rising zss
  have hlen : (cardsF zss 52).length = zss.flatten.length := by rw [← hcs, sortI_length]
  obtain ⟨ha, hb, hc, hd⟩ : handB (zss.getD 0 []) = true ∧ handB (zss.getD 1 []) = true ∧ handB (zss.getD 2 []) = true ∧ handB (zss.getD 3 []) = true := ⟨(hr 0 (by omega)).1, (hr 1 (by omega)).1, (hr 2 (by omega)).1, (hr 3 (by omega)).1⟩
  have lb := (hr 1 (by omega)).2
  have lc := (hr 2 (by omega)).2
  have ld := (hr 3 (by omega)).2
  have e4 := four_getD h4
  generalize zss.getD 0 [] = a at ha lb lc ld e4
  generalize zss.getD 1 [] = b at hb lb e4
  generalize zss.getD 2 [] = c at hc lc e4
  generalize zss.getD 3 [] = d at hd ld e4
  subst e4
  have hfl : [a, b, c, d].flatten = a ++ (b ++ (c ++ d)) := by simp
  rw [hfl] at hn hlen
  simp only [hfl] at hmem
  have hL4 : (cardsF [a, b, c, d] 52).length = 4 * a.length := by rw [hlen]; simp; omega
  generalize cardsF [a, b, c, d] 52 = L at hmem hri hlen hL4
  have hta : [a, b, c, d].take 3 = [a, b, c] := rfl
  rw [hta]
  have hsub : ∀ x, x = a ∨ x = b ∨ x = c ∨ x = d → x.Sublist L := fun x hx => by
    have hxr : risingB x = true := by rcases hx with rfl | rfl | rfl | rfl <;> apply rising_hand <;> assumption
    refine sub_of_mem (rising_pair hxr) (rising_pair hri) (fun z hz => (hmem z).2 ?_)
    rcases hx with rfl | rfl | rfl | rfl <;> simp [hz]
  have nd := hn
  simp only [List.nodup_append, List.mem_append] at nd
  obtain ⟨na, ⟨nb, ⟨nc, nd', dcd⟩, dbc⟩, dab⟩ := nd
  have dis : [a, b, c].Pairwise (fun x y => ∀ z ∈ y, z ∉ x) := by
    simp only [List.pairwise_cons, List.mem_cons, List.not_mem_nil, or_false]
    refine ⟨fun y hy z hz hza => ?_, fun y hy z hz hzb => ?_, fun y hy => absurd hy id, List.Pairwise.nil⟩
    · rcases hy with rfl | rfl
      · exact dab z hza z (.inl hz) rfl
      · exact dab z hza z (.inr (.inl hz)) rfl
    · subst hy
      exact dbc z hzb z (.inl hz) rfl
  have key := dealOf_nums a.length [a, b, c] L (pair_nodup (rising_pair hri)) (fun x hx => by simp at hx; rcases hx with rfl | rfl | rfl <;> omega) dis (fun x hx => hsub x (by simp at hx; rcases hx with rfl | rfl | rfl <;> simp))
  have hrest : [a, b, c].foldl restL L = d := by
    show restL (restL (restL L a) b) c = d
    refine strict_eq _ _ (((rising_pair (restL_rising c (restL_rising b (restL_rising a hri)))))) (rising_pair (rising_hand hd)) (fun z => ?_)
    rw [restL_mem, restL_mem, restL_mem, hmem z]
    simp only [List.mem_append]
    constructor
    · rintro ⟨⟨⟨h1, h2⟩, h3⟩, h5⟩
      rcases h1 with h1 | h1 | h1 | h1
      · exact absurd h1 h2
      · exact absurd h1 h3
      · exact absurd h1 h5
      · exact h1
    · intro hz
      exact ⟨⟨⟨.inr (.inr (.inr hz)), fun q => dab z q z (.inr (.inr hz)) rfl⟩, fun q => dbc z q z (.inr hz) rfl⟩, fun q => dcd z q z hz rfl⟩
  rw [hrest] at key
  have hq : L.length / 4 = a.length := by omega
  exact do_yes hri ⟨by omega, by rw [numsL_length]; rfl⟩ (by rw [hq]; exact key)

/-! ### Draws -/
theorem DrawHandNumber (A : Option Addr) (n c : Nat) (w : World) (h : Bytes w A n) (hn : n ≤ 1048576) :
    Calls Try.prog 39 #[.slice A n c] w fun e w' => ∃ v zs, e = .returned v ∧ zs.length ≤ 15 ∧ OwnV w' w.heap.size v zs ∧ Below w.heap.size w w' := by
  go_enter Try.func39, Try.ntmps39
  go_wp2_with fail
  refine (l01From A n c _ h hn).mono ?_
  rintro e w1 ⟨rfl, s1, b1⟩
  have hg := s1.lt
  go_wp2_with fail
  refine (l01DrawAny _ _ s1).mono ?_
  rintro e w2 ⟨v2, L, rfl, hL, o2, s2, c2⟩
  have z1 := b1.size
  go_wp2_with fail
  go_ret
  exact ⟨_, _, rfl, hL, o2.more z1, below_draw b1 c2 (Nat.le_refl _) hg⟩

def DrewDeal (w : World) (e : Ending) (w' : World) : Prop :=
  ∃ A n c zss, e = .returned (.agg #[.slice A n c]) ∧ n ≤ 4 ∧ n ≤ c ∧ RdR w' w.heap.size w'.heap.size A n zss ∧ (∀ j, (zss.getD j []).length ≤ 15) ∧ Below w.heap.size w w'
set_option maxHeartbeats 1000000 in
theorem DrawDealNumbers (A : Option Addr) (n c : Nat) (w : World) (h : Bytes w A n) (hn : n ≤ 1048576) :
    Calls Try.prog 43 #[.slice A n c] w (DrewDeal w) := by
  have ca := Lib.hid (Chg.of_alloc w (.cells #[.slice none 0 0] 26) 0 0)
  have R0 := Lib.hid (BoxAt.new w (.slice none 0 0) 26 rfl)
  have hB0 := Lib.hid (h.chg (ca.out.any w.heap.size w.heap.size))
  have hz0 : Hid ((w.alloc (.cells #[.slice none 0 0] 26)).heap.size = w.heap.size + 1) := by show _ = _; simp
  go_enter Try.func43, Try.ntmps43
  go_wp2_with fail
  generalize w.alloc (.cells #[.slice none 0 0] 26) = w0 at ca R0 hB0 hz0
  refine (l01From A n c _ hB0.out hn).mono ?_
  rintro e w1 ⟨rfl, s1, b1⟩
  have hg := s1.lt
  have l0 : w.heap.size < w0.heap.size := by rw [hz0.out]; omega
  have R1 := Lib.hid (show BoxAt w1 w.heap.size (.slice none 0 0) 26 from (b1.block _ l0).trans R0.out)
  have B1 := Lib.hid ((ca.out.to_below).trans (b1.mono (Nat.le_of_lt l0)))
  clear R0 hB0 b1 ca hz0
  go_wp2_with fail
  refine (l03DrawAny _ _ s1).mono ?_
  rintro e w2 ⟨A2, n2, c2, zss, rfl, hn2, hc2, rd2, h15, s2, k2⟩
  have R2 := Lib.hid (R1.out.far k2 (by omega))
  have B2 := Lib.hid (Chg.above B1.out k2 B1.out.size (.inl (Nat.le_of_lt l0)))
  have z1 := B1.out.size
  have p2 := R2.out.c
  have f2 := R2.out.f
  have hret := fun u => R2.out.ret u
  have st : Hid (Chg w2 (w2.setCell ⟨w.heap.size, 0, none⟩ (.slice A2 n2 c2)) w.heap.size (w.heap.size + 1)) := (Chg.refl _ _ _).store (Nat.le_refl _) (by show w.heap.size < w.heap.size + 1; omega) _
  have hfin : Hid (DrewDeal w (.returned (.agg #[.slice A2 n2 c2])) (w2.setCell ⟨w.heap.size, 0, none⟩ (.slice A2 n2 c2))) :=
    ⟨A2, n2, c2, zss, rfl, hn2, hc2, (rd2.chg st.out (.inr (by omega))).more (by omega) st.out.size, h15, Chg.above B2.out st.out B2.out.size (.inl (Nat.le_refl _))⟩
  clear s1 s2 rd2 k2 R1 R2 B1 B2 st
  go_wp2_with fail
  (try simp only [Exit.inBlock, Exit.then])
  refine bodyPost_ret (v := .agg #[.slice A2 n2 c2]) (by simp [results, Try.results43, go_sem, hret]; try rfl) rfl ?_
  exact hfin.out

set_option maxHeartbeats 4000000 in
theorem law_FnNumbers (A : Option Addr) (n c : Nat) (w : World) (h : Bytes w A n) (hA : A = none → c = 0) :
    Calls Try.prog 7 #[.slice A n c] w fun e w' => e = .returned (.bool true) ∧ Below w.heap.size w w' := by
  by_cases hn : 4096 < n
  · have hb := Lib.hid (decide_eq_true hn)
    go_enter Try.func7, Try.ntmps7
    go_wp2_with fail
    refine (big _ _ _ _).mono ?_
    rintro e w' ⟨rfl, rfl⟩
    rw [hb.out]
    go_wp2_with fail
    go_ret
    exact ⟨rfl, Below.refl _ _⟩
  · have hb := Lib.hid (decide_eq_false hn)
    go_enter Try.func7, Try.ntmps7
    go_wp2_with fail
    refine (big _ _ _ _).mono ?_
    rintro e w' ⟨rfl, rfl⟩
    rw [hb.out]
    go_wp2_with fail
    refine (DrawHandNumber A n c _ h (by omega)).mono ?_
    rintro e w1 ⟨v1, S, rfl, hS, o1, b1⟩
    obtain ⟨X, cx, rfl, lx, px, ox⟩ := o1.form
    clear o1
    go_wp2_with fail
    refine (impl_HandNumber X S.length cx S _ _ _ ox.rd lx px.nil).mono ?_
    rintro e w2 ⟨rfl, c2⟩
    have rx2 := ox.rd.still c2
    have b2 := Chg.above b1 c2 b1.size (.inr rfl)
    clear ox b1 c2
    go_wp2_with fail
    refine (spec_IsHand X S.length cx S _ _ _ rx2 (by omega)).mono ?_
    rintro e w3 ⟨rfl, c3⟩
    have rx3 := rx2.still c3
    have b3 := Chg.above b2 c3 b2.size (.inr rfl)
    clear rx2 b2 c3
    cases hh : handB S with
    | false =>
      have e1 := handNo_no hh
      rw [e1]
      clear hh e1
      go_wp2_with fail
      go_ret
      exact ⟨rfl, b3⟩
    | true =>
      obtain ⟨e1, e2⟩ := hand_back hh
      have E1 := Lib.hid e1
      have E2 := Lib.hid e2
      clear hh e1 e2
      go_wp2_with fail
      refine (impl_HandOfNumber (S.length : Int) (handNo S) _).mono ?_
      rw [E1.out, E2.out]
      rintro e w4 ⟨G, cg, rfl, _, _, og, c4⟩
      have rx4 := rx3.still c4
      have b4 := Chg.above b3 c4 b3.size (.inr rfl)
      clear rx3 b3 c4 E1 E2
      go_wp2_with fail
      refine (likeIntsQ G X S.length S.length cg cx S _ _ _ _ _ og.rd rx4 (by omega)).mono ?_
      rintro e w5 ⟨rfl, hq⟩
      have c5 := Chg.of_drew hq 0 0
      have b5 := Chg.above b4 c5 b4.size (.inr rfl)
      have h5 := h.chg (hi := w.heap.size) (Chg.of_below b5 _ _)
      clear rx4 b4 c5 hq og
      go_wp2_with fail
      refine (other A n c 4 _ h5 hA (by omega) (by omega) (by omega)).mono ?_
      rintro e w6 ⟨A6, c6, rfl, p6, by6, b6⟩
      have b6' := b5.trans (b6.mono b5.size)
      clear b5 b6 h5
      go_wp2_with fail
      refine (DrawDealNumbers A6 (3 + n) c6 _ by6 (by omega)).mono ?_
      rintro e w7 ⟨D, nd, cd, zss, rfl, hnd, hdc, rd7, h15, b7⟩
      have b7' := b6'.trans (b7.mono b6'.size)
      have bx := box_at w7 (.slice D nd cd) 26
      have ca := Chg.of_alloc w7 (.cells #[.slice D nd cd] 26) 0 0
      have rd8 := rd7.still ca
      have b8 := Chg.above b7' ca b7'.size (.inr rfl)
      have hlen : ∀ j, j < nd → (zss.getD j []).length ≤ 1048576 := fun j _ => by have := h15 j; omega
      clear rd7 b7 b7' ca by6 b6' h15
      go_wp2_with fail
      generalize w7.alloc (.cells #[.slice D nd cd] 26) = w8 at bx rd8 b8
      refine (impl_DealNumbers D nd cd zss _ _ _ rd8 hdc).mono ?_
      rintro e w9 ⟨Y, cy, rfl, ly, py, oy, c9⟩
      have bx9 := box_still bx c9
      have rd9 := rd8.still c9
      have b9 := Chg.above b8 c9 b8.size (.inr rfl)
      clear bx rd8 b8 c9
      cases hd : dealB zss with
      | false =>
        have e3 := Lib.hid (dnV_no hd)
        have HD := Lib.hid hd
        rw [e3.out]
        clear hd oy ly
        go_wp2_with fail
        refine (spec_IsDeal D nd cd zss _ _ _ rd9 hlen).mono ?_
        rw [HD.out]
        rintro e w10 ⟨rfl, c10⟩
        have b10 := Chg.above b9 c10 b9.size (.inr rfl)
        go_wp2_with fail
        go_ret
        exact ⟨rfl, b10⟩
      | true =>
        obtain ⟨e3, e4⟩ := deal_back hd
        have E3 := Lib.hid e3
        have E4 := Lib.hid e4
        have hdc' : Hid (dealCards zss = cardsF zss 52) := by show _ = _; simp [dealCards, hd]
        have h4 : Hid (nd = 4) := by show _ = _; rw [← rd9.1]; exact ((deal_iff zss).1 hd).1
        have hc52 := cardsF_len52 zss
        have hd3 := dnV_len zss
        have hz4 : Hid (zss.length = 4) := ((deal_iff zss).1 hd).1
        clear hd e3 e4
        go_wp2_with fail
        refine (spec_CardsOfDeal D nd cd zss _ _ _ rd9 (by omega) hlen).mono ?_
        rw [hdc'.out]
        rintro e w10 ⟨Z, cz, rfl, lz, pz, oz, c10⟩
        have bx10 := box_still bx9 c10
        have rd10 := rd9.still c10
        have oy10 := oy.still c10
        have b10 := Chg.above b9 c10 b9.size (.inr rfl)
        clear bx9 rd9 oy b9 c10
        go_wp2_with fail
        refine (impl_DealOfNumbers Z Y (cardsF zss 52).length cz (dnV zss).length cy (cardsF zss 52) (dnV zss) _ _ _ _ oz pz.nil oy10.rd (by omega) (by omega)).mono ?_
        rw [E3.out, E4.out]
        rintro e w11 ⟨R, cr, rfl, _, or, c11⟩
        have bx11 := box_still bx10 c11
        have rd11 := rd10.still c11
        have b11 := Chg.above b10 c11 b10.size (.inr rfl)
        have by11 := box_at w11 (.slice R zss.length cr) 26
        have ca := Chg.of_alloc w11 (.cells #[.slice R zss.length cr] 26) 0 0
        have bx12 := box_still bx11 ca
        have rd12 := rd11.still ca
        have or12 := or.still ca
        have b12 := Chg.above b11 ca b11.size (.inr rfl)
        clear bx10 rd10 oy10 oz b10 c11 bx11 rd11 or b11 ca
        go_wp2_with fail
        generalize w11.alloc (.cells #[.slice R zss.length cr] 26) = w12 at by11 bx12 rd12 or12 b12
        refine (likeDeals R D zss.length nd cr cd zss _ _ _ _ _ or12.rd rd12 (by rw [hz4.out]; omega) (fun j hj => hlen j (by rw [h4.out]; rw [hz4.out] at hj; exact hj))).mono ?_
        rintro e w13 ⟨rfl, c13⟩
        have b13 := Chg.above b12 c13 b12.size (.inr rfl)
        go_wp2_with fail
        go_ret
        exact ⟨rfl, b13⟩
end Go.Proofs.Ytfhfgdgpilpdkaa.Lib1
