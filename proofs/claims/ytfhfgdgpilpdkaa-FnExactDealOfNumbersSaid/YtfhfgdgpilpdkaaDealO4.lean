/- Chapter 4: DealOfNumbers (the program's). -/
import Derived.Test.YtfhfgdgpilpdkaaDealN4
import Derived.Test.YtfhfgdgpilpdkaaS03r
namespace Go.Proofs.Ytfhfgdgpilpdkaa.Lib1
open Go.RowKit
set_option maxRecDepth 100000

set_option maxHeartbeats 1000000 in
theorem wp_pushRK {w w1 : World} {o : Oper} {a : Act} {K : Act → World → Prop} {Q : Exit → Act → World → Prop} (s x : Operand)
    (ho : o.op = .call { callee := .builtin .append, args := #[s, x], argTypes := #[24, 24] })
    (base : Nat) (v : Value) (zss : List (List Int)) (hs : a.eval s = v) (h : OwnVR w base v zss) (hk : ∀ k, base ≤ k → k < w.heap.size → w1.heap[k]? = w.heap[k]?) (hz : w.heap.size ≤ w1.heap.size)
    (D : Option Addr) (c : Nat) (ys : List Int) (hr : Own w1 w.heap.size w1.heap.size D ys.length ys) (hc : ys.length ≤ c) (hp : Plain D c)
    (hx : a.eval x = .slice (some ⟨w1.heap.size, 0, none⟩) 1 1) (hn : zss.length ≤ 1048576) (hbase : base ≤ w.heap.size)
    (hK : ∀ v' w2, OwnVR w2 base v' (zss ++ [ys]) → Below base w1 w2 → (∀ (lo : Nat) (A : Option Addr) (n : Nat) (zs : List Int), Own w1 lo w1.heap.size A n zs → Own w2 lo w2.heap.size A n zs) → K (a.put o.dst v') w2) :
    o.wp Try.prog a (w1.alloc (.cells #[.slice D ys.length c] 27)) K Q := by
  obtain ⟨i0, hi0, hz0, hz1, hz2⟩ := info_parts rows_info
  have h1 := h.kept hk hz
  obtain ⟨B, C, g1, g2, g3⟩ := h
  have g1' := row_kept g1 hk
  refine wp_append_own _ s x 24 ho base 27 i0 (.slice none 0 0) 1 24 Try.underlying24 hi0 hz0 hz1 hz2 rfl (by decide) v zss.length (rowV B C zss) hs (World.ownsRow.alloc g1' _)
    ⟨w1.heap.size, 0, none⟩ 1 1 [.slice D ys.length c] hx rfl ?_ ?_ ?_ ?_ ?_ ?_
  · intro j u hj
    match j, hj with
    | 0, hj => simp at hj; subst hj; simp [Addr.add]
  · intro u hu; simp at hu; subst hu; rfl
  · unfold maxLen; omega
  · omega
  · simp; omega
  · intro v' w2 k1 k2 _
    have hbl := h1.block
    have hb1 : Below base w1 (w1.alloc (.cells #[.slice D ys.length c] 27)) := (Below.refl _ _).alloc (by omega) _
    have hfar : ∀ {lo : Nat} {A : Option Addr} {n : Nat} {zs : List Int}, Own w1 lo w1.heap.size A n zs → Own w2 lo w2.heap.size A n zs := by
      intro lo A n zs hO
      refine ⟨hO.1, fun hn0 => ?_⟩
      obtain ⟨b, cs, e, l1, l2, hb, hcs⟩ := hO.2 hn0
      have hne : v.ownBlock ≠ some b := by
        intro ev
        rcases g1'.2 with ⟨rfl, _⟩ | ⟨g, cap, cur, rfl, _, hh, _⟩
        · simp [Value.ownBlock] at ev
        · simp [Value.ownBlock] at ev
          subst ev
          rw [hb] at hh
          injection hh with hh
          injection hh with _ ht _
          exact rowsT_ne ht.symm
      have hsz := k2.size
      have hbk : w2.heap[b]? = w1.heap[b]? := (k2.block b (by simp; omega) (fun e => hne e.symm)).trans (Below.heap_alloc _ _ _ l2)
      exact ⟨b, cs, e, l1, by simp at hsz; omega, hbk.trans hb, hcs⟩
    refine hK v' w2 ?_ (hb1.grown k2 (by simp; omega) hbl) (fun lo A n zs hO => hfar hO)
    refine ⟨fun j => if j < zss.length then B j else D, fun j => if j < zss.length then C j else c, ?_, fun j hj => ?_, fun i j hij hj hi hj0 p q hp1 hq1 => ?_⟩
    · rw [← rowV_snoc, List.length_append, List.length_singleton]; exact k1
    · rw [List.length_append, List.length_singleton] at hj
      dsimp only
      rw [getD_snoc]
      by_cases e : j < zss.length
      · rw [if_pos e, if_pos e, if_pos e]
        obtain ⟨q1, q2⟩ := g2 j e
        exact ⟨hfar (q1.keptIn hk hz rfl), q2⟩
      · have e' : j = zss.length := by omega
        rw [if_neg e, if_neg e, if_neg e, if_pos e']
        exact ⟨hfar (hr.more hbase (Nat.le_refl _)), hc, hp⟩
    · rw [List.length_append, List.length_singleton] at hj
      have ei : i < zss.length := by omega
      dsimp only at hp1 hq1
      rw [if_pos ei] at hp1
      rw [getD_snoc, if_pos ei] at hi
      by_cases e : j < zss.length
      · rw [if_pos e] at hq1
        rw [getD_snoc, if_pos e] at hj0
        exact g3 i j hij e hi hj0 p q hp1 hq1
      · rw [if_neg e] at hq1
        have e' : j = zss.length := by omega
        rw [getD_snoc, if_neg e, if_pos e'] at hj0
        obtain ⟨b, cs, eb, l1, l2, hb, _⟩ := (g2 i ei).1.2 hi
        obtain ⟨d, ds, ed, m1, m2, hd, _⟩ := hr.2 hj0
        rw [hp1] at eb
        rw [hq1] at ed
        injection eb with eb
        injection ed with ed
        rw [eb, ed]
        show b ≠ d
        omega

theorem wpList_pushRK {w w1 : World} {ops : Array Oper} {rest : List Oper} {o : Oper} {a : Act} {Q : Exit → Act → World → Prop} (hgd : o.guard = none) (s x : Operand)
    (ho : o.op = .call { callee := .builtin .append, args := #[s, x], argTypes := #[24, 24] })
    (base : Nat) (v : Value) (zss : List (List Int)) (hs : a.eval s = v) (h : OwnVR w base v zss) (hk : ∀ k, base ≤ k → k < w.heap.size → w1.heap[k]? = w.heap[k]?) (hz : w.heap.size ≤ w1.heap.size)
    (D : Option Addr) (c : Nat) (ys : List Int) (hr : Own w1 w.heap.size w1.heap.size D ys.length ys) (hc : ys.length ≤ c) (hp : Plain D c)
    (hx : a.eval x = .slice (some ⟨w1.heap.size, 0, none⟩) 1 1) (hn : zss.length ≤ 1048576) (hbase : base ≤ w.heap.size)
    (hK : ∀ v' w2, OwnVR w2 base v' (zss ++ [ys]) → Below base w1 w2 → (∀ (lo : Nat) (A : Option Addr) (n : Nat) (zs : List Int), Own w1 lo w1.heap.size A n zs → Own w2 lo w2.heap.size A n zs) → wpList Try.prog ops Q rest (a.put o.dst v') w2) :
    wpList Try.prog ops Q (o :: rest) a (w1.alloc (.cells #[.slice D ys.length c] 27)) :=
  wpList_plain hgd fun _ hK' => wp_pushRK s x ho base v zss hs h hk hz D c ys hr hc hp hx hn hbase fun v' w2 h1 h2 h3 => hK' _ _ (hK v' w2 h1 h2 h3)

/-! ### What DealOfNumbers returns -/
def doC (L M : List Int) : Int := if risingB L = true then (if L.length % 4 = 0 ∧ M.length = 3 then (if (dealOf (L.length / 4) L M).isSome = true then 0 else 4) else 2) else 1
def doV (L M : List Int) : List (List Int) := if doC L M = 0 then (dealOf (L.length / 4) L M).getD [] else []
theorem do_no1 {L M : List Int} (h : risingB L = false) : doC L M = 1 ∧ doV L M = [] := by
  have : doC L M = 1 := by simp [doC, h]
  exact ⟨this, by simp [doV, this]⟩
theorem do_no2 {L M : List Int} (h : risingB L = true) (hk : ¬ (L.length % 4 = 0 ∧ M.length = 3)) : doC L M = 2 ∧ doV L M = [] := by
  have : doC L M = 2 := by unfold doC; rw [if_pos h, if_neg hk]
  exact ⟨this, by simp [doV, this]⟩
theorem do_no3 {L M : List Int} (h : risingB L = true) (hk : L.length % 4 = 0 ∧ M.length = 3) (hd : dealOf (L.length / 4) L M = none) : doC L M = 4 ∧ doV L M = [] := by
  have : doC L M = 4 := by unfold doC; rw [if_pos h, if_pos hk, hd]; rfl
  exact ⟨this, by simp [doV, this]⟩
theorem do_yes {L M : List Int} {R : List (List Int)} (h : risingB L = true) (hk : L.length % 4 = 0 ∧ M.length = 3) (hd : dealOf (L.length / 4) L M = some R) : doC L M = 0 ∧ doV L M = R := by
  have : doC L M = 0 := by unfold doC; rw [if_pos h, if_pos hk, hd]; rfl
  exact ⟨this, by unfold doV; rw [if_pos this, hd]; rfl⟩
structure DoAt (L M : List Int) (n j : Nat) (hs : List (List Int)) (K : List Int) : Prop where
  eq : dealOf n L M = (dealOf n K (M.drop j)).map (hs ++ ·)
  hl : hs.length = j
  ri : risingB K = true
  ln : K.length + n * j = 4 * n
theorem DoAt.start {L M : List Int} {n : Nat} (h : risingB L = true) (hl : L.length = 4 * n) : DoAt L M n 0 [] L := ⟨by simp, rfl, h, by omega⟩
theorem DoAt.fail {L M : List Int} {n j : Nat} {hs : List (List Int)} {K : List Int} (h : DoAt L M n j hs K) (hj : j < M.length) (hm : ¬ (0 ≤ M.getD j 0 ∧ M.getD j 0 < (ch K.length n : Int))) : dealOf n L M = none := by
  rw [h.eq, drop_at hj, dealOf, if_neg hm]; rfl
theorem DoAt.step {L M : List Int} {n j : Nat} {hs : List (List Int)} {K : List Int} (h : DoAt L M n j hs K) (hj : j < M.length) (hm : 0 ≤ M.getD j 0 ∧ M.getD j 0 < (ch K.length n : Int)) :
    DoAt L M n (j + 1) (hs ++ [unrankN K n (M.getD j 0).toNat]) (restL K (unrankN K n (M.getD j 0).toNat)) ∧ (unrankN K n (M.getD j 0).toNat).length = n := by
  have hl := unrank_length K n (M.getD j 0).toNat (by omega)
  have hr := restL_len (pair_nodup (rising_pair h.ri)) (unrank_sub K n (M.getD j 0).toNat)
  refine ⟨⟨?_, by simp [h.hl], restL_rising _ h.ri, ?_⟩, hl⟩
  · rw [h.eq, drop_at hj, dealOf, if_pos hm, Option.map_map]
    congr 1
    funext x
    simp
  · have := h.ln
    rw [Nat.mul_succ]; omega
theorem DoAt.done {L M : List Int} {n j : Nat} {hs : List (List Int)} {K : List Int} (h : DoAt L M n j hs K) (hj : M.length ≤ j) : dealOf n L M = some (hs ++ [K]) := by
  rw [h.eq, List.drop_of_length_le hj]; rfl

/-- The two boxes of DealOfNumbers: its result, and the deal that it makes. -/
structure BoxD (w wr : World) (r v : Value) : Prop where
  b0 : wr.heap[w.heap.size]? = some (.cells #[r] 26 (0, 0))
  b1 : wr.heap[w.heap.size + 1]? = some (.cells #[v] 26 (0, 0))
section
variable {w wr w' : World} {r v : Value}
theorem BoxD.c0 (h : BoxD w wr r v) : wr.cell? ⟨w.heap.size, 0, none⟩ = some r := by rw [cell_of_row _ _ _ _ _ _ h.b0]; rfl
theorem BoxD.c1 (h : BoxD w wr r v) : wr.cell? ⟨w.heap.size + 1, 0, none⟩ = some v := by rw [cell_of_row _ _ _ _ _ _ h.b1]; rfl
theorem BoxD.f0 (h : BoxD w wr r v) : wr.frozen? ⟨w.heap.size, 0, none⟩ = false := by simp [World.frozen?, h.b0]
theorem BoxD.f1 (h : BoxD w wr r v) : wr.frozen? ⟨w.heap.size + 1, 0, none⟩ = false := by simp [World.frozen?, h.b1]
theorem BoxD.below (h : BoxD w wr r v) (b : Below (w.heap.size + 2) wr w') : BoxD w w' r v := ⟨(b.block _ (by omega)).trans h.b0, (b.block _ (by omega)).trans h.b1⟩
theorem BoxD.still (h : BoxD w wr r v) (c : Chg wr w' 0 0) : BoxD w w' r v := ⟨(c.block _ (lt_of_block h.b0) (.inr (Nat.zero_le _))).trans h.b0, (c.block _ (lt_of_block h.b1) (.inr (Nat.zero_le _))).trans h.b1⟩
theorem BoxD.put (h : BoxD w wr r v) (u : Value) : BoxD w (wr.setCell ⟨w.heap.size + 1, 0, none⟩ u) r u :=
  ⟨(Below.heap_setCell _ _ _ _ (by show w.heap.size ≠ w.heap.size + 1; omega)).trans h.b0, by simp [World.setCell, Array.getElem?_modify, h.b1]⟩
theorem BoxD.ret (h : BoxD w wr r v) (u : Value) : (wr.setCell ⟨w.heap.size, 0, none⟩ u).cell? ⟨w.heap.size, 0, none⟩ = some u := by
  rw [cell_of_row _ _ _ #[u] 26 (0, 0) (by simp [World.setCell, Array.getElem?_modify, h.b0])]; rfl
theorem BoxD.start (w : World) (r v : Value) : BoxD w ((w.alloc (.cells #[r] 26)).alloc (.cells #[v] 26)) r v := by
  have e : (w.alloc (.cells #[r] 26)).heap.size = w.heap.size + 1 := by simp
  refine ⟨(Below.heap_alloc _ _ _ (by omega)).trans (heap_alloc_new w _), ?_⟩
  have := heap_alloc_new (w.alloc (.cells #[r] 26)) (.cells #[v] 26)
  rwa [e] at this
end
theorem dealT_ne : (26 : TypeId) ≠ 2 := by decide
/-- A row keeps its cells where a deal's box is written. -/
theorem Own.box {w : World} {lo hi g : Nat} {A : Option Addr} {n : Nat} {zs : List Int} {cs : Array Value} {fr : Nat × Nat} (h : Own w lo hi A n zs) (hg : w.heap[g]? = some (.cells cs 26 fr)) (u : Value) : Own (w.setCell ⟨g, 0, none⟩ u) lo hi A n zs :=
  ⟨h.1, fun hn => by
    obtain ⟨b, ds, e, h1, h2, hb, hc⟩ := h.2 hn
    have hne : b ≠ g := fun e' => by
      subst e'
      rw [hb] at hg
      injection hg with hg
      injection hg with _ ht _
      exact dealT_ne ht.symm
    exact ⟨b, ds, e, h1, h2, (Below.heap_setCell _ _ _ _ hne).trans hb, hc⟩⟩
theorem RetDI.of_eq {w w' : World} {zss zss' : List (List Int)} {k k' : Int} {e : Ending} (h1 : zss' = zss) (h2 : k' = k) (h : RetDI w zss k e w') : RetDI w zss' k' e w' := by rw [h1, h2]; exact h

set_option maxHeartbeats 4000000 in
theorem impl_DealOfNumbers (A B : Option Addr) (n c m d : Nat) (L M : List Int) (lo lo' hi' : Nat) (w : World) (h : Own w lo w.heap.size A n L) (hp : A = none → c = 0) (h' : Rd w lo' hi' B m M) (hn : n ≤ 1048576) (hm : m ≤ 1048576) :
    Calls Try.prog 46 #[.slice A n c, .slice B m d] w (RetDI w (doV L M) (doC L M)) := by
  have hL := Lib.hid h.1
  have hM := Lib.hid h'.1
  have ca := Lib.hid (Chg.of_alloc w (.cells #[.slice none 0 0] 26) 0 0)
  have q0 : Hid ((w.alloc (.cells #[.slice none 0 0] 26)).heap[w.heap.size]? = some (.cells #[.slice none 0 0] 26 (0, 0))) := heap_alloc_new w _
  have q1 := box_at w (.slice none 0 0) 26
  cases hd : risingB L with
  | false =>
    obtain ⟨e1, e2⟩ := do_no1 (M := M) hd
    have E1 := Lib.hid e1
    have E2 := Lib.hid e2
    have HD := Lib.hid hd
    clear hd e1 e2
    go_enter Try.func46, Try.ntmps46
    go_wp2_with fail
    refine (isCardList _ _ _ L _ _ _ (h.rd.still ca.out) hn).mono ?_
    rw [HD.out]
    rintro e w1 ⟨rfl, rfl⟩
    go_wp2_with fail
    (try simp only [Exit.inBlock, Exit.then])
    refine bodyPost_ret (v := .tuple #[.agg #[.slice none 0 0], .int .i64 1]) (by simp [results, Try.results46, go_sem, q1]; try rfl) rfl ?_
    exact RetDI.of_eq E2.out E1.out ⟨none, 0, rfl, Nat.le_refl _, OwnR.none_, ca.out⟩
  | true =>
    have HD := Lib.hid hd
    have hn52 : n ≤ 52 := by rw [← hL.out]; exact rising_len hd
    by_cases h4 : n % 4 = 0
    · have r4 : (n : Int) % 4 = 0 := by omega
      by_cases h3 : m = 3
      · subst h3
        have hk : L.length % 4 = 0 ∧ M.length = 3 := by rw [hL.out, hM.out]; exact ⟨h4, rfl⟩
        obtain ⟨n4, hn4⟩ : ∃ n4, n = 4 * n4 := ⟨n / 4, by omega⟩
        have hq : (n : Int) / 4 = (n4 : Int) := by omega
        have hq' : L.length / 4 = n4 := by rw [hL.out]; omega
        have hno := fun q => Lib.hid (do_no3 (L := L) (M := M) hd hk (by rw [hq']; exact q))
        have hyes := fun R q => Lib.hid (do_yes (L := L) (M := M) (R := R) hd hk (by rw [hq']; exact q))
        have hst := Lib.hid (DoAt.start (M := M) (n := n4) hd (by rw [hL.out]; exact hn4))
        have hn13 : n4 ≤ 13 := by omega
        have bx0 := Lib.hid (BoxD.start w (.slice none 0 0) (.slice none 0 0))
        have cb := Lib.hid (ca.out.trans (Chg.of_alloc (w.alloc (.cells #[.slice none 0 0] 26)) (.cells #[.slice none 0 0] 26) 0 0))
        have sb : Hid (((w.alloc (.cells #[.slice none 0 0] 26)).alloc (.cells #[.slice none 0 0] 26)).heap.size = w.heap.size + 2) := by show _ = _; simp
        have hl0 := Lib.hid (h.still cb.out)
        have hr0 := Lib.hid (h.rd.still ca.out)
        clear hd hk hq' h hn4
        go_enter Try.func46, Try.ntmps46
        go_wp2_with fail
        refine (isCardList _ _ _ L _ _ _ hr0.out hn).mono ?_
        rw [HD.out]
        rintro e w1 ⟨rfl, rfl⟩
        clear q1
        go_wp2_with fail
        clear r4 hq h4
        go_loopw [7, 33] (fun lv i wr => ∃ (j nx cx lo1 : Nat) (X : Option Addr) (v : Value) (K : List Int) (hs : List (List Int)) (wo : World), j ≤ 3 ∧ i = .int .i64 j ∧ lv = .slice X nx cx ∧ (X = none → cx = 0) ∧ Own wr lo1 wr.heap.size X nx K ∧ (0 < j → nx ≤ cx ∧ Plain X cx ∧ Own wr wo.heap.size wr.heap.size X nx K) ∧ Hid (BoxD w wr (.slice none 0 0) v) ∧ OwnVR wo (w.heap.size + 2) v hs ∧ (∀ k, w.heap.size + 2 ≤ k → k < wo.heap.size → wr.heap[k]? = wo.heap[k]?) ∧ wo.heap.size ≤ wr.heap.size ∧ w.heap.size + 2 ≤ wo.heap.size ∧ Below w.heap.size w wr ∧ Hid (DoAt L M n4 j hs K)) (fun _ i _ => 3 - (intOf i).toNat)
        case atStart => exact ⟨0, n, c, lo, A, .slice none 0 0, L, [], _, Nat.zero_le _, rfl, rfl, hp, hl0.out.more (Nat.le_refl _) cb.out.size, (fun q => absurd q (by omega)), bx0.out, OwnVR.nil_ _ _, (fun _ _ _ => rfl), Nat.le_refl _, by rw [sb.out]; exact Nat.le_refl _, cb.out.to_below, hst.out⟩
        case round =>
          obtain ⟨j, nx, cx, lo1, X, v, K, hs, wo, hj, rfl, rfl, hpx, hown, hfr, hbox, ho, hkp, hzo, hzw, hb, hD⟩ := hrel
          have hKl := Lib.hid hown.1
          have hln := hD.out.ln
          rw [hKl.out] at hln
          have hhs : hs.length ≤ 3 := by rw [hD.out.hl]; exact hj
          by_cases hlt : j < 3
          · have hjl : (j : Int) < 3 := by omega
            have hmul : n4 * j ≤ n4 * 2 := Nat.mul_le_mul_left _ (by omega)
            have hn4x : n4 ≤ nx := by omega
            have hnx : nx ≤ 52 := by omega
            obtain ⟨b, off, rfl, _, _, hcs⟩ := (h'.still (Chg.of_below hb 0 0)).2 (by omega)
            have hck := hcs j hlt
            have hMj : j < M.length := by rw [hM.out]; exact hlt
            by_cases hz : 0 ≤ M.getD j 0 ∧ M.getD j 0 < (ch nx n4 : Int)
            · have u1 := Lib.hid (unrC_yes (k := (n4 : Int)) (num := M.getD j 0) hD.out.ri ⟨by omega, by rw [hKl.out]; omega⟩ (by rw [hKl.out, show ((n4 : Nat) : Int).toNat = n4 by omega]; exact hz))
              have u2 := Lib.hid (unrV_yes u1.out)
              rw [show ((n4 : Nat) : Int).toNat = n4 by omega] at u2
              obtain ⟨d1, d2⟩ := hD.out.step hMj (by rw [hKl.out]; exact hz)
              have hD' := Lib.hid d1
              have hHl := Lib.hid d2
              clear d1 d2 hD hcs hz hmul
              generalize M.getD j 0 = z at hck u1 u2 hD' hHl
              generalize unrankN K n4 z.toNat = H at u2 hD' hHl
              have hH13 : H.length ≤ 1048576 := by rw [hHl.out]; omega
              have hrl := restL_le K H
              rw [hKl.out] at hrl
              go_wp2_with fail
              refine (impl_UnrankSubset X nx cx (n4 : Int) z K _ _ _ hown.rd (by omega)).mono ?_
              rw [u1.out, u2.out]
              rintro e w1 ⟨D, dc, rfl, ld, pd, od, c1⟩
              have bx1 := Lib.hid (hbox.out.still c1)
              have own1 := hown.still c1
              have z1 := c1.size
              have kp1 : ∀ k, w.heap.size + 2 ≤ k → k < wo.heap.size → w1.heap[k]? = wo.heap[k]? := fun k q1 q2 => (c1.block k (by omega) (.inr (Nat.zero_le _))).trans (hkp k q1 q2)
              have hb1 := hb.trans (c1.to_below.mono hb.size)
              have zo1 : wo.heap.size ≤ w1.heap.size := by omega
              have od1 := od.more hzo (Nat.le_refl _)
              have cc1 := bx1.out.c1
              have ca1 := fun o => box_still cc1 (Chg.of_alloc w1 o 0 0)
              clear hown hfr hbox hkp hb c1
              go_wp2_with (first | (at_builtin; refine wpList_pushRK (w := wo) (w1 := w1) rfl _ _ rfl (w.heap.size + 2) v hs rfl ho kp1 zo1 D dc H od1 ld pd rfl (by omega) hzw ?_; intro v2 w2 o2 b2 far; obtain ⟨A2, c2, ea2, _, _⟩ := o2.own; rw [show (hs ++ [H]).length = hs.length + 1 by simp] at ea2; subst ea2; have bx2 := Lib.hid (bx1.out.below b2); have k2 := bx2.out.c1; have f2 := bx2.out.f1; have left3 := Lib.hid ((far _ _ _ _ (own1.more (Nat.le_refl _) z1)).box bx2.out.b1 (.slice A2 (hs.length + 1) c2)); have hand3 := Lib.hid ((far _ _ _ _ od).box bx2.out.b1 (.slice A2 (hs.length + 1) c2))) | (go_at_call 95; refine (listWithout X D nx cx H.length dc K H _ _ _ _ _ left3.out.rd hand3.out.rd (by omega) hH13 hpx).mono ?_; rintro e w4 ⟨v4, rfl, o4, b4⟩; obtain ⟨X4, c4, rfl, l4, p4, own4⟩ := o4.form))
              have z2 := b2.size
              have o3 := OwnVR.kept (w' := w2.setCell ⟨w.heap.size + 1, 0, none⟩ (.slice A2 (hs.length + 1) c2)) o2 (fun q hq _ => Below.heap_setCell _ _ _ _ (by show q ≠ w.heap.size + 1; omega)) (by simp [World.setCell])
              have z3 : (w2.setCell ⟨w.heap.size + 1, 0, none⟩ (.slice A2 (hs.length + 1) c2)).heap.size = w2.heap.size := by simp [World.setCell]
              have ch3 := (Chg.of_below (hb1.trans (b2.mono (by omega))) 0 0).cell (g := w.heap.size + 1) (i := 0) (v := .slice A2 (hs.length + 1) c2) (by omega)
              have hb4 := (ch3.trans (Chg.of_below b4 0 0)).to_below
              have bx4 := Lib.hid ((bx2.out.put (.slice A2 (hs.length + 1) c2)).still (Chg.of_below b4 0 0))
              have kp4 : ∀ k, w.heap.size + 2 ≤ k → k < (w2.setCell ⟨w.heap.size + 1, 0, none⟩ (.slice A2 (hs.length + 1) c2)).heap.size → w4.heap[k]? = (w2.setCell ⟨w.heap.size + 1, 0, none⟩ (.slice A2 (hs.length + 1) c2)).heap[k]? := fun k _ q => b4.block k q
              have z4 := b4.size
              have zw3 : w.heap.size + 2 ≤ (w2.setCell ⟨w.heap.size + 1, 0, none⟩ (.slice A2 (hs.length + 1) c2)).heap.size := by rw [z3]; omega
              clear z3 o2 b2 far bx1 bx2 k2 f2 left3 hand3 o4 ch3 b4 hb1 kp1 od od1 own1 cc1 ca1 ho
              go_roundw
              case rel => exact ⟨j + 1, (restL K H).length, c4, _, X4, _, restL K H, hs ++ [H], _, by omega, by go_num, rfl, p4.nil, own4, (fun _ => ⟨l4, p4, own4⟩), bx4.out, o3, kp4, z4, zw3, hb4, hD'.out⟩
              case measure => simp [intOf]; omega
            · have u1 := Lib.hid (unrC_no3 (k := (n4 : Int)) (num := M.getD j 0) hD.out.ri ⟨by omega, by rw [hKl.out]; omega⟩ (by rw [hKl.out, show ((n4 : Nat) : Int).toNat = n4 by omega]; exact hz))
              have u2 := Lib.hid (unrV_no u1.out (by omega))
              have E := hno (hD.out.fail hMj (by rw [hKl.out]; exact hz))
              clear hD hcs hz hmul
              generalize M.getD j 0 = z at hck u1 u2
              go_wp2_with fail
              refine (impl_UnrankSubset X nx cx (n4 : Int) z K _ _ _ hown.rd (by omega)).mono ?_
              rw [u1.out, u2.out]
              rintro e w1 ⟨D, dc, rfl, ld, pd, od, c1⟩
              have bx1 := Lib.hid (hbox.out.still c1)
              have k0 := bx1.out.c0
              have f0 := bx1.out.f0
              have hret := fun u => bx1.out.ret u
              have ch1 := Lib.hid (((Chg.of_below hb 0 0).trans c1).cell (g := w.heap.size) (i := 0) (v := .slice none 0 0) (Nat.le_refl _))
              clear hown hfr hbox hkp hb c1 od
              go_wp2_with fail
              (try simp only [Exit.inBlock, Exit.then])
              refine bodyPost_ret (v := .tuple #[.agg #[.slice none 0 0], .int .i64 4]) (by simp [results, Try.results46, go_sem, hret]; try rfl) rfl ?_
              exact RetDI.of_eq E.out.2 E.out.1 ⟨none, 0, rfl, Nat.le_refl _, OwnR.none_, ch1.out⟩
          · obtain rfl : j = 3 := by omega
            obtain ⟨fx1, fx2, fx3⟩ := hfr (by omega)
            have E := hyes _ (hD.out.done (by rw [hM.out]; exact Nat.le_refl _))
            have hRl : Hid ((hs ++ [K]).length = 4) := by show _ = _; simp [hD.out.hl]
            obtain rfl : nx = K.length := hKl.out.symm
            have cc1 := hbox.out.c1
            have ca1 := fun o => box_still cc1 (Chg.of_alloc wr o 0 0)
            clear hD hfr hown hln hKl
            go_wp2_with (at_builtin; refine wpList_pushRK (w := wo) (w1 := wr) rfl _ _ rfl (w.heap.size + 2) v hs rfl ho hkp hzo X cx K fx3 fx1 fx2 rfl (by omega) hzw ?_; intro v2 w2 o2 b2 far; obtain ⟨A2, c2, ea2, l2, own2⟩ := o2.own; rw [show (hs ++ [K]).length = hs.length + 1 by simp] at ea2 l2 own2; subst ea2; have bx2 := Lib.hid (hbox.out.below b2); have k2 := bx2.out.c1; have f2 := bx2.out.f1; have bx3 := Lib.hid (bx2.out.put (.slice A2 (hs.length + 1) c2)); have k3 := bx3.out.c1; have k30 := bx3.out.c0; have f30 := bx3.out.f0; have hret := fun u => bx3.out.ret u)
            (try simp only [Exit.inBlock, Exit.then])
            have z2 := b2.size
            have ch2 := Chg.of_below (hb.trans (b2.mono (by omega))) 0 0
            have hfin := (own2.chg (w' := w2.setCell ⟨w.heap.size + 1, 0, none⟩ (.slice A2 (hs.length + 1) c2)) ((Chg.refl w2 (w.heap.size + 1) (w.heap.size + 2)).store (b := w.heap.size + 1) (k := 0) (by omega) (by omega) _) (.inr (by omega))).chg (w' := (w2.setCell ⟨w.heap.size + 1, 0, none⟩ (.slice A2 (hs.length + 1) c2)).setCell ⟨w.heap.size, 0, none⟩ (.slice A2 (hs.length + 1) c2)) ((Chg.refl _ w.heap.size (w.heap.size + 1)).store (b := w.heap.size) (k := 0) (by omega) (by omega) _) (.inr (by omega))
            have hcf := (ch2.cell (g := w.heap.size + 1) (i := 0) (v := .slice A2 (hs.length + 1) c2) (by omega)).cell (g := w.heap.size) (i := 0) (v := .slice A2 (hs.length + 1) c2) (by omega)
            refine bodyPost_ret (v := .tuple #[.agg #[.slice A2 (hs.length + 1) c2], .int .i64 0]) (by simp [results, Try.results46, go_sem, hret]; try rfl) rfl ?_
            exact RetDI.of_eq E.out.2 E.out.1 ⟨A2, c2, by rw [show (hs ++ [K]).length = hs.length + 1 by simp], by rw [show (hs ++ [K]).length = hs.length + 1 by simp]; exact l2, by rw [show (hs ++ [K]).length = hs.length + 1 by simp]; exact hfin.more (by omega) (by simp [World.setCell]), hcf⟩
      · have h3' : ¬ (m : Int) = 3 := by omega
        have h3b : ((m : Int) == 3) = false := by simpa using h3'
        obtain ⟨e1, e2⟩ := do_no2 (L := L) (M := M) hd (by rw [hM.out]; omega)
        have E1 := Lib.hid e1
        have E2 := Lib.hid e2
        clear hd e1 e2
        go_enter Try.func46, Try.ntmps46
        go_wp2_with fail
        refine (isCardList _ _ _ L _ _ _ (h.rd.still ca.out) hn).mono ?_
        rw [HD.out]
        rintro e w1 ⟨rfl, rfl⟩
        go_wp2_with fail
        (try simp only [Exit.inBlock, Exit.then])
        refine bodyPost_ret (v := .tuple #[.agg #[.slice none 0 0], .int .i64 2]) (by simp [results, Try.results46, go_sem, q1]; try rfl) rfl ?_
        exact RetDI.of_eq E2.out E1.out ⟨none, 0, rfl, Nat.le_refl _, OwnR.none_, ca.out⟩
    · have r4 : ¬ (n : Int) % 4 = 0 := by omega
      have r4b : ((n : Int) % 4 == 0) = false := by simpa using r4
      obtain ⟨e1, e2⟩ := do_no2 (L := L) (M := M) hd (by rw [hL.out]; omega)
      have E1 := Lib.hid e1
      have E2 := Lib.hid e2
      clear hd e1 e2
      go_enter Try.func46, Try.ntmps46
      go_wp2_with fail
      refine (isCardList _ _ _ L _ _ _ (h.rd.still ca.out) hn).mono ?_
      rw [HD.out]
      rintro e w1 ⟨rfl, rfl⟩
      go_wp2_with fail
      (try simp only [Exit.inBlock, Exit.then])
      refine bodyPost_ret (v := .tuple #[.agg #[.slice none 0 0], .int .i64 2]) (by simp [results, Try.results46, go_sem, q1]; try rfl) rfl ?_
      exact RetDI.of_eq E2.out E1.out ⟨none, 0, rfl, Nat.le_refl _, OwnR.none_, ca.out⟩
end Go.Proofs.Ytfhfgdgpilpdkaa.Lib1
