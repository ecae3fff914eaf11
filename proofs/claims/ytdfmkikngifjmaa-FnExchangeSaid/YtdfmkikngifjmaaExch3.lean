/- Chapter 3: the draws of ExchangeCards and the lists of an exchange. -/
import Derived.Test.YtdfmkikngifjmaaLists3
import Derived.Test.YtdfmkikngifjmaaCh4
import Derived.Test.YtdfmkikngifjmaaDraw3b
import Derived.Test.YtdfmkikngifjmaaS03x
import Derived.Test.YtdfmkikngifjmaaCardsI
import Derived.Deep.RegionHeld3
namespace Go.Proofs.Ytdfmkikngifjmaa.Lib1
open Go.RowKit
set_option maxRecDepth 100000

set_option maxHeartbeats 400000 in
/-- laws.hasInt -/
theorem hasInt (A : Option Addr) (n c : Nat) (x : Int) (zs : List Int) (lo hi : Nat) (w : World) (h : Rd w lo hi A n zs) (hn : n ≤ 1048576) :
    Calls Try.prog 61 #[.slice A n c, .int .i64 x] w fun e w' => e = .returned (.bool (hasB zs x)) ∧ w = w' := by
  have HL := Lib.hid h.1
  go_enter Try.func61, Try.ntmps61
  go_wp2
  go_loop [5] (fun i => ∃ k : Nat, k ≤ n ∧ i = .int .i64 k ∧ Hid (∀ j, j < k → zs.getD j 0 ≠ x)) (fun i => n - (intOf i).toNat)
  case atStart => exact ⟨0, Nat.zero_le _, rfl, fun j hj => by omega⟩
  case round =>
    obtain ⟨k, hk, rfl, hr⟩ := hrel
    by_cases hlt : k < n
    · obtain ⟨b, off, rfl, _, _, hc⟩ := h.2 (by omega)
      have hck := hc k hlt
      have hkl : (k : Int) < (n : Int) := by omega
      have hkz : k < zs.length := by rw [HL.out]; exact hlt
      by_cases he : zs.getD k 0 = x
      · have hf := Lib.hid (hasB_yes hkz he)
        have ht : (zs.getD k 0 == x) = true := by simpa using he
        generalize zs.getD k 0 = z at hck ht
        clear hc he hr
        go_wp2
        go_ret
        exact ⟨ret_bool hf.out.symm, rfl⟩
      · have hr' : Hid (∀ j, j < k + 1 → zs.getD j 0 ≠ x) := by
          intro j hj
          by_cases e : j < k
          · exact hr.out j e
          · obtain rfl : j = k := by omega
            exact he
        have ht : (zs.getD k 0 == x) = false := by simpa using he
        generalize zs.getD k 0 = z at hck ht
        clear hc he hr
        go_wp2
        go_round
        case rel => exact ⟨k + 1, by omega, by go_num, hr'⟩
        case measure => simp [intOf]; omega
    · have hf : Hid (hasB zs x = false) := hasB_no (fun j hj => hr.out j (by rw [HL.out] at hj; omega))
      go_wp2
      go_ret
      exact ⟨ret_bool hf.out.symm, rfl⟩


/-! ### Lists -/
theorem exch_a (a b : Int) : exch a b a = b := by simp [exch]
theorem exch_b (a b : Int) : exch a b b = a := by unfold exch; split <;> simp_all
theorem exch_flat {zss : List (List Int)} (a b z : Int) : z ∈ (mapD (exch a b) zss).flatten ↔ exch a b z ∈ zss.flatten := by
  rw [(flatten_perm (exch a b) zss).mem_iff, List.mem_map]
  constructor
  · rintro ⟨y, hy, rfl⟩; rw [exch_twice]; exact hy
  · intro h; exact ⟨exch a b z, h, exch_twice a b z⟩
structure Exch (zss P : List (List Int)) (a b : Int) : Prop where
  v : exV zss a b = P
  e : exE zss a b = 0
  v2 : exV P a b = zss
  e2 : exE P a b = 0
  deal : dealB P = true
  ha : holderV P a = holderV zss b
  hb : holderV P b = holderV zss a
  cards : dealCards P = dealCards zss
  len : P.length = 4
theorem exchange {zss : List (List Int)} {a b : Int} (h : dealB zss = true) (hf : exFound zss a b = true) : Exch zss (mapD (exch a b) zss) a b := by
  obtain ⟨h4, hr, hn⟩ := (deal_iff zss).1 h
  have hf' := hf
  simp only [exFound, Bool.and_eq_true, decide_eq_true_eq] at hf'
  have ma := holder_iff.1 hf'.1
  have mb := holder_iff.1 hf'.2
  have ra := deal_range h a ma
  have rb := deal_range h b mb
  have hP := mapD_deal (exch_inj a b) (exch_onto ra rb) h
  obtain ⟨p4, pr, pn⟩ := (deal_iff _).1 hP
  have fa : 0 ≤ holderF (mapD (exch a b) zss) a := holder_iff.2 ((exch_flat a b a).2 (by rw [exch_a]; exact mb))
  have fb : 0 ≤ holderF (mapD (exch a b) zss) b := holder_iff.2 ((exch_flat a b b).2 (by rw [exch_b]; exact ma))
  have hfP : exFound (mapD (exch a b) zss) a b = true := by simp [exFound, fa, fb]
  have hold : ∀ x y, exch a b x = y → y ∈ zss.flatten → holderF (mapD (exch a b) zss) x = holderF zss y := by
    intro x y hxy hy
    obtain ⟨j, hj, ej, hm⟩ := holder_mem (holder_iff.2 hy)
    rw [ej]
    refine holder_at pn (by rw [mapD_length]; exact hj) ?_
    rw [mapD_getD _ _ _ hj, mem_exch, hxy]; exact hm
  refine ⟨?_, ?_, ?_, ?_, hP, ?_, ?_, ?_, p4⟩
  · simp [exV, h, hf, ex_mapD h hf]
  · simp [exE, h, hf]
  · simp only [exV, hP, hfP, Bool.and_self, if_true]
    rw [ex_mapD hP hfP]
    exact mapD_back (exch_inj a b) (exch_onto ra rb) (exch_inj a b) (fun x _ _ => exch_twice a b x) h
  · simp [exE, hP, hfP]
  · simp only [holderV, hP, h, if_true]; exact hold a b (exch_a a b) mb
  · simp only [holderV, hP, h, if_true]; exact hold b a (exch_b a b) ma
  · simp only [dealCards, hP, h, if_true]
    refine strict_eq _ _ (cardsF_strict _ 52) (cardsF_strict _ 52) (fun z => ?_)
    rw [cardsF_mem, cardsF_mem, holder_iff, holder_iff, exch_flat, ← exch_both ma mb z]
theorem exch_none' {zss : List (List Int)} {a b : Int} (h : ¬ (dealB zss = true ∧ exFound zss a b = true)) : exV zss a b = [] ∧ (exE zss a b = 1 ∨ exE zss a b = 4) := by
  cases hd : dealB zss <;> cases hf : exFound zss a b <;> simp_all [exV, exE]
theorem holder_small {zss : List (List Int)} {c : Int} (h : dealB zss = true) (hc : 0 ≤ holderV zss c) : ∃ j : Nat, j < 4 ∧ holderV zss c = j ∧ c ∈ zss.getD j [] := by
  have h4 := ((deal_iff zss).1 h).1
  simp only [holderV, h, if_true] at hc ⊢
  obtain ⟨j, hj, e, hm⟩ := holder_mem hc
  exact ⟨j, by omega, e, hm⟩
theorem holderV_deal {zss : List (List Int)} (h : dealB zss = true) (c : Int) : holderV zss c = holderF zss c := by simp [holderV, h]

/-! ### Draws -/
set_option maxHeartbeats 1000000 in
theorem l03DrawHeld (g : Nat) (A : Option Addr) (n c : Nat) (zss : List (List Int)) (lo hi : Nat) (w : World) (h : Src w g) (rd : RdR w lo hi A n zss) (hn : n ≤ 4) (hl : ∀ j, j < n → (zss.getD j []).length ≤ 1048576) :
    Calls Try.prog 106 #[.pointer (some ⟨g, 0, none⟩), .agg #[.slice A n c]] w (Drew g w fun _ => True) := by
  have ca := Lib.hid (Chg.of_alloc w (.cells #[.slice A n c] 25) 0 0)
  have hbx := box_at w (.slice A n c) 25
  have hs0 := h.still ca.out
  have hg := h.lt
  have hz : Hid ((w.alloc (.cells #[.slice A n c] 25)).heap.size = w.heap.size + 1) := by show _ = _; simp
  go_enter Try.func106, Try.ntmps106
  go_wp2_with fail
  refine (l03Cards A n c zss _ _ _ (rd.still ca.out) (by omega) hl).mono ?_
  rintro e w1 ⟨v1, rfl, o1, b1⟩
  have s1 := hs0.below b1
  have k1 : Chg w w1 g (g + 1) := (ca.out.trans (Chg.of_below b1 0 0)).any _ _
  have hc52 := cardsF_len zss 52
  obtain ⟨X, cx, rfl, _, _, ox⟩ := o1.form
  have hgX : g < (w.alloc (.cells #[.slice A n c] 25)).heap.size := by rw [hz.out]; omega
  have OX := Lib.hid ox
  clear o1 b1 ca hs0 hbx rd ox
  generalize cardsF zss 52 = L at hc52 OX
  by_cases h0 : 0 < L.length
  · have h0' : (0 : Int) < (L.length : Int) := by omega
    go_wp2_with fail
    refine (l01Next g 8 _ s1 (by omega)).mono ?_
    rintro e w2 ⟨r2, rfl, ⟨r20, _⟩, s2, c2⟩
    have k2 := k1.trans c2
    have o2 := OX.out.chg c2 (.inr (by omega))
    by_cases q2 : 0 < r2
    · go_wp2_with fail
      refine (l01Next g (L.length : Int) _ s2 (by omega)).mono ?_
      rintro e w3 ⟨r3, rfl, ⟨r30, r31⟩, s3, c3⟩
      have r32 := r31 (by omega)
      obtain ⟨m, rfl⟩ := Int.eq_ofNat_of_zero_le r30
      have k3 := k2.trans c3
      obtain ⟨b, off, rfl, _, _, hcs⟩ := (o2.chg c3 (.inr (by omega))).rd.2 h0
      have hck := hcs m (by omega)
      generalize L.getD m 0 = z at hck
      clear hcs o2 c3 c2 s2 s1 k1 k2 r31
      go_wp2_with fail
      go_ret
      exact ⟨_, rfl, trivial, s3, k3⟩
    · go_wp2_with fail
      refine (l01DrawCard g _ s2).mono ?_
      rintro e w3 ⟨r3, rfl, _, s3, c3⟩
      go_wp2_with fail
      go_ret
      exact ⟨_, rfl, trivial, s3, k2.trans c3⟩
  · have h0' : ¬ (0 : Int) < (L.length : Int) := by omega
    go_wp2_with fail
    refine (l01DrawCard g _ s1).mono ?_
    rintro e w3 ⟨r3, rfl, _, s3, c3⟩
    go_wp2_with fail
    go_ret
    exact ⟨_, rfl, trivial, s3, k1.trans c3⟩

def DrewDII (w : World) (e : Ending) (w' : World) : Prop :=
  ∃ A n c zss a b, e = .returned (.tuple #[.agg #[.slice A n c], .int .i64 a, .int .i64 b]) ∧ n ≤ 4 ∧ RdR w' w.heap.size w'.heap.size A n zss ∧ (∀ j, (zss.getD j []).length ≤ 15) ∧ Below w.heap.size w w'
theorem dii_end {w W : World} {A : Option Addr} {n c : Nat} {a b : Int} {zss : List (List Int)} {V : Value} (hn : n ≤ 4) (rd : RdR W (w.heap.size + 1) W.heap.size A n zss) (h15 : ∀ j, (zss.getD j []).length ≤ 15) (bl : Below w.heap.size w W) :
    DrewDII w (.returned (.tuple #[.agg #[.slice A n c], .int .i64 a, .int .i64 b])) (W.setCell ⟨w.heap.size, 0, none⟩ V) := by
  have st : Chg W (W.setCell ⟨w.heap.size, 0, none⟩ V) w.heap.size (w.heap.size + 1) := (Chg.refl _ _ _).store (Nat.le_refl _) (by show w.heap.size < w.heap.size + 1; omega) _
  exact ⟨A, n, c, zss, a, b, rfl, hn, (rd.chg st (.inr (Nat.le_refl _))).more (by omega) st.size, h15, Chg.above bl st bl.size (.inl (Nat.le_refl _))⟩
set_option maxHeartbeats 4000000 in
theorem DrawExchangeCards (A : Option Addr) (n c : Nat) (w : World) (h : Bytes w A n) (hn : n ≤ 1048576) :
    Calls Try.prog 57 #[.slice A n c] w (DrewDII w) := by
  have ca := Lib.hid (Chg.of_alloc w (.cells #[.slice none 0 0] 25) 0 0)
  have R0 := Lib.hid (BoxAt.new w (.slice none 0 0) 25 rfl)
  have hB0 := Lib.hid (h.chg (ca.out.any w.heap.size w.heap.size))
  have hz0 : Hid ((w.alloc (.cells #[.slice none 0 0] 25)).heap.size = w.heap.size + 1) := by show _ = _; simp
  go_enter Try.func57, Try.ntmps57
  go_wp2_with fail
  generalize w.alloc (.cells #[.slice none 0 0] 25) = w0 at ca R0 hB0 hz0
  refine (l01From A n c _ hB0.out hn).mono ?_
  rintro e w1 ⟨rfl, s1, b1⟩
  generalize hgq : w0.heap.size = g at s1 b1
  have hg : Hid (g = w.heap.size + 1) := by show _ = _; rw [← hgq]; exact hz0.out
  have R1 := Lib.hid (show BoxAt w1 w.heap.size (.slice none 0 0) 25 from (b1.block _ (by have := hg.out; omega)).trans R0.out)
  have B1 := Lib.hid ((ca.out.to_below).trans (b1.mono (by have := hg.out; omega)))
  have l1 := Lib.hid s1.lt
  clear R0 hB0 b1 ca hz0
  have HG := Lib.hid hgq
  clear hgq
  go_wp2_with fail
  refine (l03DrawAny g _ s1).mono ?_
  rintro e w2 ⟨A2, n2, c2, zss, rfl, hn2, _, rd2, h15, s2, k2⟩
  have R2 := Lib.hid (R1.out.far k2 (by have := hg.out; omega))
  have B2 := Lib.hid (Chg.above B1.out k2 B1.out.size (.inl (by have := hg.out; omega)))
  have RD2 := Lib.hid rd2
  have z2 := Lib.hid k2.size
  have ca3 := Lib.hid (Chg.of_alloc w2 (.cells #[.slice A2 n2 c2] 25) 0 0)
  have Q3 := Lib.hid (BoxAt.new w2 (.slice A2 n2 c2) 25 rfl)
  have R3 := Lib.hid (R2.out.still ca3.out)
  have B3 := Lib.hid (B2.out.trans (ca3.out.to_below.mono B2.out.size))
  have RD3 := Lib.hid (RD2.out.still ca3.out)
  have s3 := s2.still ca3.out
  have H15 := Lib.hid h15
  have hz3 : Hid ((w2.alloc (.cells #[.slice A2 n2 c2] 25)).heap.size = w2.heap.size + 1) := by show _ = _; simp
  have hl := Lib.hid (fun j (_ : j < n2) => (show (zss.getD j []).length ≤ 1048576 by have := h15 j; omega))
  clear s1 rd2 h15 s2 k2 R1 B1 R2 RD2
  go_wp2_with fail
  generalize w2.alloc (.cells #[.slice A2 n2 c2] 25) = w3 at ca3 Q3 R3 B3 RD3 s3 hz3
  have pd := Q3.out.c
  have dr := Lib.hid (Chg.drewN w3 1 0 0)
  have s3d := Lib.hid (s3.still dr.out)
  have rd3d := Lib.hid (RD3.out.still dr.out)
  go_region_held3 (fun W => W.cell? ⟨w2.heap.size, 0, none⟩ = some (.slice A2 n2 c2)) (first | exact pd | exact pd4 | exact pd5 | exact pd6) (first | (have q4 := k4; go_at_call 106; refine (l03DrawHeld g A2 n2 c2 zss _ _ w4 s4 RD4.out hn2 hl.out).mono ?_; rintro e w5 ⟨r5, rfl, _, s5, c5⟩; have Q5 := Lib.hid (Q4.out.far c5 (by have := z2.out; have := l1.out; omega)); have pd5 := Q5.out.c; have R5 := Lib.hid (R4.out.far c5 (by have := hg.out; omega)); have RD5 := Lib.hid (RD4.out.chg c5 (.inr (by have := l1.out; omega))); have B5 := Lib.hid (Chg.above B4.out c5 B4.out.size (.inl (by have := hg.out; omega))); have p5 := R5.out.c; have f5 := R5.out.f; have hret := fun u => R5.out.ret u; have pd6 := (Q5.out.set (g := w.heap.size) (i := 0) (u := .slice A2 n2 c2) (by have := l1.out; have := hg.out; have := z2.out; omega)).c; have k5 := Lib.hid c5.size) | (go_at_call 106; refine (l03DrawHeld g A2 n2 c2 zss _ _ _ s3d.out rd3d.out hn2 hl.out).mono ?_; rintro e w4 ⟨r4, rfl, _, s4, c4'⟩; have c4 := Lib.hid ((dr.out.any g (g + 1)).trans c4'); have Q4 := Lib.hid (Q3.out.far c4.out (by have := z2.out; have := l1.out; omega)); have pd4 := Q4.out.c; have R4 := Lib.hid (R3.out.far c4.out (by have := hg.out; omega)); have RD4 := Lib.hid (RD3.out.chg c4.out (.inr (by have := l1.out; omega))); have B4 := Lib.hid (Chg.above B3.out c4.out B3.out.size (.inl (by have := hg.out; omega))); have k4 := Lib.hid c4.out.size; clear c4'))
  all_goals
    have hfin : Hid (DrewDII w (.returned (.tuple #[.agg #[.slice A2 n2 c2], .int .i64 r4, .int .i64 r5])) (w5.setCell ⟨w.heap.size, 0, none⟩ (.slice A2 n2 c2))) := dii_end hn2 (RD5.out.more (by have := l1.out; have := hg.out; omega) (by have := k4.out; have := k5.out; have := hz3.out; omega)) H15.out B5.out
    (try go_wp2_with fail)
    (try simp only [Exit.inBlock, Exit.then])
    refine bodyPost_ret (v := .tuple #[.agg #[.slice A2 n2 c2], .int .i64 r4, .int .i64 r5]) (by simp [results, Try.results57, go_sem, hret]; try rfl) rfl ?_
    exact hfin.out
end Go.Proofs.Ytdfmkikngifjmaa.Lib1
