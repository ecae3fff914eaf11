/- Chapter 4: DealOfNumbers (the model's). -/
import Derived.Test.YtfhfgdgpilpdkaaDealO4
import Derived.Test.YtfhfgdgpilpdkaaClos
namespace Go.Proofs.Ytfhfgdgpilpdkaa.Lib1
open Go.RowKit
set_option maxRecDepth 100000

/-- Rows of the call's own, each of which lies below 'top'. -/
def OwnVRT (w : World) (base top : Nat) (v : Value) (zss : List (List Int)) : Prop := ∃ (B : Nat → Option Addr) (C : Nat → Nat),
  w.ownsRow base 27 1 v zss.length (rowV B C zss) ∧
  (∀ j, j < zss.length → Own w base w.heap.size (B j) (zss.getD j []).length (zss.getD j []) ∧ (zss.getD j []).length ≤ C j ∧ Plain (B j) (C j)) ∧
  (∀ i j, i < j → j < zss.length → 0 < (zss.getD i []).length → 0 < (zss.getD j []).length → ∀ x y, B i = some x → B j = some y → x.block ≠ y.block) ∧
  ∀ j, j < zss.length → 0 < (zss.getD j []).length → ∀ x, B j = some x → x.block < top
theorem OwnVRT.to {w : World} {base top : Nat} {v : Value} {zss : List (List Int)} (h : OwnVRT w base top v zss) : OwnVR w base v zss := by
  obtain ⟨B, C, h1, h2, h3, _⟩ := h; exact ⟨B, C, h1, h2, h3⟩
theorem OwnVRT.of {w : World} {base : Nat} {v : Value} {zss : List (List Int)} (h : OwnVR w base v zss) : OwnVRT w base w.heap.size v zss := by
  obtain ⟨B, C, h1, h2, h3⟩ := h
  refine ⟨B, C, h1, h2, h3, fun j hj h0 x hx => ?_⟩
  obtain ⟨b, cs, e, _, l2, _⟩ := (h2 j hj).1.2 h0
  rw [hx] at e
  injection e with e
  rw [e]; exact l2
theorem OwnVRT.nil_ (w : World) (base top : Nat) : OwnVRT w base top (.slice none 0 0) [] := by
  obtain ⟨B, C, h1, h2, h3⟩ := OwnVR.nil_ w base
  exact ⟨B, C, h1, h2, h3, fun j hj => absurd hj (by simp)⟩
theorem OwnVRT.kept {w w' : World} {base top : Nat} {v : Value} {zss : List (List Int)} (h : OwnVRT w base top v zss) (hb : ∀ k, base ≤ k → k < w.heap.size → w'.heap[k]? = w.heap[k]?) (hs : w.heap.size ≤ w'.heap.size) : OwnVRT w' base top v zss := by
  obtain ⟨B, C, h1, h2, h3, h4⟩ := h
  exact ⟨B, C, row_kept h1 hb, fun j hj => ⟨(h2 j hj).1.keptIn hb hs rfl, (h2 j hj).2⟩, h3, h4⟩

set_option maxHeartbeats 1000000 in
/-- 'append([][]T{}, rows...)': a new slice of the same rows. -/
theorem wpList_catR {w1 : World} {ops : Array Oper} {rest : List Oper} {o : Oper} {a : Act} {Q : Exit → Act → World → Prop} (hgd : o.guard = none) (s x : Operand)
    (ho : o.op = .call { callee := .builtin .append, args := #[s, x], argTypes := #[24, 24] })
    (base top : Nat) (v : Value) (zss : List (List Int)) (hv : a.eval x = v) (h : OwnVRT w1 base top v zss) (hs : a.eval s = .slice (some ⟨w1.heap.size, 0, none⟩) 0 0) (hn : zss.length ≤ 1048576) (hbase : base ≤ w1.heap.size)
    (hK : ∀ v' w2, OwnVRT w2 base top v' zss → Below w1.heap.size w1 w2 → wpList Try.prog ops Q rest (a.put o.dst v') w2) :
    wpList Try.prog ops Q (o :: rest) a (w1.alloc (.cells #[] 27)) := by
  obtain ⟨i0, hi0, hz0, hz1, hz2⟩ := info_parts rows_info
  obtain ⟨B, C, g1, g2, g3, g4⟩ := h
  have hE : (w1.alloc (.cells #[] 27)).ownsRow w1.heap.size 27 1 (.slice (some ⟨w1.heap.size, 0, none⟩) 0 0) 0 [] :=
    ⟨by simp, .inr ⟨w1.heap.size, 0, #[], rfl, Nat.le_refl _, heap_alloc_new w1 _, Nat.le_refl _, Nat.zero_le _, by simp, by simp⟩⟩
  have ba : Below w1.heap.size w1 (w1.alloc (.cells #[] 27)) := (Below.refl _ _).alloc (Nat.le_refl _) _
  rcases g1.2 with ⟨rfl, h0⟩ | ⟨g, cap, cur, rfl, hg, hh, hcap, hmax, hsz, ht⟩
  · have hz : zss = [] := List.eq_nil_of_length_eq_zero h0
    subst hz
    refine wpList_append_own_none hgd s x 24 ho w1.heap.size 27 i0 1 Try.underlying24 hi0 _ 0 [] hs hE hv ?_
    refine hK _ _ ⟨fun _ => none, fun _ => 0, ?_, fun j hj => absurd hj (by simp), fun i j _ hj => absurd hj (by simp), fun j hj => absurd hj (by simp)⟩ ba
    exact ⟨by simp [rowV], .inr ⟨w1.heap.size, 0, #[], rfl, hbase, heap_alloc_new w1 _, Nat.le_refl _, Nat.zero_le _, by simp, by simp [rowV]⟩⟩
  · have hgl := lt_of_block hh
    have hrl : (rowV B C zss).length = zss.length := by simp [rowV]
    refine wpList_append_own _ hgd s x 24 ho w1.heap.size 27 i0 (.slice none 0 0) 1 24 Try.underlying24 hi0 hz0 hz1 hz2 rfl (by decide) _ 0 [] hs hE
      ⟨g, 0, none⟩ zss.length cap (rowV B C zss) hv (by rw [hrl, Nat.mul_one]) ?_ ?_ ?_ ?_ ?_ ?_
    · intro j u hj
      have hjl : j < zss.length := by
        rcases Nat.lt_or_ge j zss.length with q | q
        · exact q
        · rw [List.getElem?_eq_none (by rw [hrl]; exact q)] at hj; cases hj
      have hadd : (⟨g, 0, none⟩ : Addr).add j = ⟨g, j, none⟩ := by unfold Addr.add; split <;> simp_all
      rw [hadd, cell_of_row _ _ _ _ _ _ ((Below.heap_alloc w1 _ g hgl).trans hh)]
      rw [← ht, List.getElem?_take, if_pos (by omega)] at hj
      simpa using hj
    · intro u hu
      simp only [rowV, List.mem_map] at hu
      obtain ⟨q, _, rfl⟩ := hu
      rfl
    · unfold maxLen; omega
    · omega
    · simp
    · intro v' w2 k1 k2 _
      have hb2 : Below w1.heap.size w1 w2 := ba.grown k2 (by simp) (by intro k hk; simp [Value.ownBlock] at hk; omega)
      refine hK v' w2 ⟨B, C, ?_, fun j hj => ⟨(g2 j hj).1.keptIn (fun k _ hk => hb2.block k hk) hb2.size rfl, (g2 j hj).2⟩, g3, g4⟩ hb2
      rw [Nat.zero_add, List.nil_append] at k1
      refine ⟨k1.1, ?_⟩
      rcases k1.2 with q | ⟨g', cap', cur', e1, e2, e3⟩
      · exact .inl q
      · exact .inr ⟨g', cap', cur', e1, Nat.le_trans hbase e2, e3⟩

set_option maxHeartbeats 1000000 in
theorem wp_pushRT {w1 : World} {o : Oper} {a : Act} {K : Act → World → Prop} {Q : Exit → Act → World → Prop} (s x : Operand)
    (ho : o.op = .call { callee := .builtin .append, args := #[s, x], argTypes := #[24, 24] })
    (base : Nat) (v : Value) (zss : List (List Int)) (hs : a.eval s = v) (top : Nat) (h : OwnVRT w1 base top v zss)
    (D : Option Addr) (c : Nat) (ys : List Int) (hr : Own w1 top w1.heap.size D ys.length ys) (hc : ys.length ≤ c) (hp : Plain D c)
    (hx : a.eval x = .slice (some ⟨w1.heap.size, 0, none⟩) 1 1) (hn : zss.length ≤ 1048576) (hbt : base ≤ top) (hbase : base ≤ w1.heap.size)
    (hK : ∀ v' w2, OwnVR w2 base v' (zss ++ [ys]) → Below base w1 w2 → (∀ (lo : Nat) (A : Option Addr) (n : Nat) (zs : List Int), Own w1 lo w1.heap.size A n zs → Own w2 lo w2.heap.size A n zs) → K (a.put o.dst v') w2) :
    o.wp Try.prog a (w1.alloc (.cells #[.slice D ys.length c] 27)) K Q := by
  obtain ⟨i0, hi0, hz0, hz1, hz2⟩ := info_parts rows_info
  have h1 := h.to
  obtain ⟨B, C, g1, g2, g3, g4⟩ := h
  have g1' := g1
  refine wp_append_own _ s x 24 ho base 27 i0 (.slice none 0 0) 1 24 Try.underlying24 hi0 hz0 hz1 hz2 rfl (by decide) v zss.length (rowV B C zss) hs (World.ownsRow.alloc g1' _)
    ⟨w1.heap.size, 0, none⟩ 1 1 [.slice D ys.length c] hx rfl ?_ ?_ ?_ ?_ ?_ ?_
  · intro j u hj
    match j, hj with
    | 0, hj => simp at hj; subst hj; simp [Addr.add]
  · intro u hu; simp at hu; subst hu; rfl
  · unfold maxLen; omega
  · omega
  · simp; omega
  · intro v' w2 k1 k2 _
    have hbl := h1.block
    have hb1 : Below base w1 (w1.alloc (.cells #[.slice D ys.length c] 27)) := (Below.refl _ _).alloc (by omega) _
    have hfar : ∀ {lo : Nat} {A : Option Addr} {n : Nat} {zs : List Int}, Own w1 lo w1.heap.size A n zs → Own w2 lo w2.heap.size A n zs := by
      intro lo A n zs hO
      refine ⟨hO.1, fun hn0 => ?_⟩
      obtain ⟨b, cs, e, l1, l2, hb, hcs⟩ := hO.2 hn0
      have hne : v.ownBlock ≠ some b := by
        intro ev
        rcases g1'.2 with ⟨rfl, _⟩ | ⟨g, cap, cur, rfl, _, hh, _⟩
        · simp [Value.ownBlock] at ev
        · simp [Value.ownBlock] at ev
          subst ev
          rw [hb] at hh
          injection hh with hh
          injection hh with _ ht _
          exact rowsT_ne ht.symm
      have hsz := k2.size
      have hbk : w2.heap[b]? = w1.heap[b]? := (k2.block b (by simp; omega) (fun e => hne e.symm)).trans (Below.heap_alloc _ _ _ l2)
      exact ⟨b, cs, e, l1, by simp at hsz; omega, hbk.trans hb, hcs⟩
    refine hK v' w2 ?_ (hb1.grown k2 (by simp; omega) hbl) (fun lo A n zs hO => hfar hO)
    refine ⟨fun j => if j < zss.length then B j else D, fun j => if j < zss.length then C j else c, ?_, fun j hj => ?_, fun i j hij hj hi hj0 p q hp1 hq1 => ?_⟩
    · rw [← rowV_snoc, List.length_append, List.length_singleton]; exact k1
    · rw [List.length_append, List.length_singleton] at hj
      dsimp only
      rw [getD_snoc]
      by_cases e : j < zss.length
      · rw [if_pos e, if_pos e, if_pos e]
        obtain ⟨q1, q2⟩ := g2 j e
        exact ⟨hfar q1, q2⟩
      · have e' : j = zss.length := by omega
        rw [if_neg e, if_neg e, if_neg e, if_pos e']
        exact ⟨hfar (hr.more hbt (Nat.le_refl _)), hc, hp⟩
    · rw [List.length_append, List.length_singleton] at hj
      have ei : i < zss.length := by omega
      dsimp only at hp1 hq1
      rw [if_pos ei] at hp1
      rw [getD_snoc, if_pos ei] at hi
      by_cases e : j < zss.length
      · rw [if_pos e] at hq1
        rw [getD_snoc, if_pos e] at hj0
        exact g3 i j hij e hi hj0 p q hp1 hq1
      · rw [if_neg e] at hq1
        have e' : j = zss.length := by omega
        rw [getD_snoc, if_neg e, if_pos e'] at hj0
        obtain ⟨d, ds, ed, m1, m2, hd, _⟩ := hr.2 hj0
        rw [hq1] at ed
        injection ed with ed
        have := g4 i ei hi p hp1
        rw [ed]
        show p.block ≠ d
        omega

theorem wpList_pushRT {w1 : World} {ops : Array Oper} {rest : List Oper} {o : Oper} {a : Act} {Q : Exit → Act → World → Prop} (hgd : o.guard = none) (s x : Operand)
    (ho : o.op = .call { callee := .builtin .append, args := #[s, x], argTypes := #[24, 24] })
    (base : Nat) (v : Value) (zss : List (List Int)) (hs : a.eval s = v) (top : Nat) (h : OwnVRT w1 base top v zss)
    (D : Option Addr) (c : Nat) (ys : List Int) (hr : Own w1 top w1.heap.size D ys.length ys) (hc : ys.length ≤ c) (hp : Plain D c)
    (hx : a.eval x = .slice (some ⟨w1.heap.size, 0, none⟩) 1 1) (hn : zss.length ≤ 1048576) (hbt : base ≤ top) (hbase : base ≤ w1.heap.size)
    (hK : ∀ v' w2, OwnVR w2 base v' (zss ++ [ys]) → Below base w1 w2 → (∀ (lo : Nat) (A : Option Addr) (n : Nat) (zs : List Int), Own w1 lo w1.heap.size A n zs → Own w2 lo w2.heap.size A n zs) → wpList Try.prog ops Q rest (a.put o.dst v') w2) :
    wpList Try.prog ops Q (o :: rest) a (w1.alloc (.cells #[.slice D ys.length c] 27)) :=
  wpList_plain hgd fun _ hK' => wp_pushRT s x ho base v zss hs top h D c ys hr hc hp hx hn hbt hbase fun v' w2 h1 h2 h3 => hK' _ _ (hK v' w2 h1 h2 h3)

set_option maxHeartbeats 8000000 in
theorem spec_DealOfNumbers (A B : Option Addr) (n c m d : Nat) (L M : List Int) (lo hi lo' hi' : Nat) (w : World) (h : Rd w lo hi A n L) (hp : A = none → c = 0) (h' : Rd w lo' hi' B m M) (hn : n ≤ 1048576) (hm : m ≤ 1048576) :
    Calls Try.prog 62 #[.slice A n c, .slice B m d] w (RetDI w (doV L M) (doC L M)) := by
  have hL := Lib.hid h.1
  have hM := Lib.hid h'.1
  have ca := Lib.hid (Chg.of_alloc w (.cells #[.slice none 0 0] 26) 0 0)
  have q0 := BoxAt.new w (.slice none 0 0) 26 rfl
  have hr0 := Lib.hid (h.still ca.out)
  cases hd : risingB L with
  | false =>
    obtain ⟨e1, e2⟩ := do_no1 (M := M) hd
    have E1 := Lib.hid e1
    have E2 := Lib.hid e2
    have HD := Lib.hid hd
    clear hd e1 e2
    go_enter Try.func62, Try.ntmps62
    go_wp2_with fail
    refine (l01Rising _ _ _ L _ _ _ hr0.out hn).mono ?_
    rw [HD.out]
    rintro e w1 ⟨rfl, c1⟩
    have q1 := (q0.still c1).c
    have f1 := (q0.still c1).f
    have hret := fun u => (q0.still c1).ret u
    have hcf := Lib.hid ((ca.out.trans c1).cell (g := w.heap.size) (i := 0) (v := .slice none 0 0) (Nat.le_refl _))
    clear q0 c1
    go_wp2_with fail
    (try simp only [Exit.inBlock, Exit.then])
    refine bodyPost_ret (v := .tuple #[.agg #[.slice none 0 0], .int .i64 1]) (by simp [results, Try.results62, go_sem, hret]; try rfl) rfl ?_
    exact RetDI.of_eq E2.out E1.out ⟨none, 0, rfl, Nat.le_refl _, OwnR.none_, hcf.out⟩
  | true =>
    have HD := Lib.hid hd
    have hn52 : n ≤ 52 := by rw [← hL.out]; exact rising_len hd
    by_cases h4 : n % 4 = 0 ∧ m = 3
    · obtain ⟨h4, rfl⟩ := h4
      have r4 : (n : Int) % 4 = 0 := by omega
      have hk : L.length % 4 = 0 ∧ M.length = 3 := by rw [hL.out, hM.out]; exact ⟨h4, rfl⟩
      obtain ⟨n4, hn4⟩ : ∃ n4, n = 4 * n4 := ⟨n / 4, by omega⟩
      have hq : (n : Int) / 4 = (n4 : Int) := by omega
      have hq' : L.length / 4 = n4 := by rw [hL.out]; omega
      have hno := fun q => Lib.hid (do_no3 (L := L) (M := M) hd hk (by rw [hq']; exact q))
      have hyes := fun R q => Lib.hid (do_yes (L := L) (M := M) (R := R) hd hk (by rw [hq']; exact q))
      have hst := Lib.hid (DoAt.start (M := M) (n := n4) hd (by rw [hL.out]; exact hn4))
      have hn13 : n4 ≤ 13 := by omega
      clear hd hk hq' hn4
      go_enter Try.func62, Try.ntmps62
      go_wp2_with fail
      refine (l01RisingQ _ _ _ L _ _ _ hr0.out hn).mono ?_
      rw [HD.out]
      rintro e w1 ⟨rfl, q, rfl⟩
      have bx0 : Hid (BoxD w (((w.alloc (.cells #[.slice none 0 0] 26)).drewN q).alloc (.cells #[.slice none 0 0] 26)) (.slice none 0 0) (.slice none 0 0)) := by
        have q2 := BoxD.start w (.slice none 0 0) (.slice none 0 0)
        exact ⟨q2.b0, q2.b1⟩
      have sb : Hid ((((w.alloc (.cells #[.slice none 0 0] 26)).drewN q).alloc (.cells #[.slice none 0 0] 26)).heap.size = w.heap.size + 2) := by show _ = _; simp
      have cb := Lib.hid ((ca.out.trans (Chg.drewN (w.alloc (.cells #[.slice none 0 0] 26)) q 0 0)).trans (Chg.of_alloc ((w.alloc (.cells #[.slice none 0 0] 26)).drewN q) (.cells #[.slice none 0 0] 26) 0 0))
      have om : OwnV ((((w.alloc (.cells #[.slice none 0 0] 26)).drewN q).alloc (.cells #[.slice none 0 0] 26)).alloc (.cells #[] 2)) (w.heap.size + 2) (.slice (some ⟨w.heap.size + 2, 0, none⟩) 0 0) [] := by
        have := OwnV.made (((w.alloc (.cells #[.slice none 0 0] 26)).drewN q).alloc (.cells #[.slice none 0 0] 26)) (base := w.heap.size + 2) (by rw [sb.out]; exact Nat.le_refl _)
        rwa [sb.out] at this
      have OM := Lib.hid om
      have cm := Lib.hid (Chg.of_alloc (((w.alloc (.cells #[.slice none 0 0] 26)).drewN q).alloc (.cells #[.slice none 0 0] 26)) (.cells #[] 2) 0 0)
      have sm : w.heap.size + 2 ≤ ((((w.alloc (.cells #[.slice none 0 0] 26)).drewN q).alloc (.cells #[.slice none 0 0] 26)).alloc (.cells #[] 2)).heap.size := by simp
      have hl0 := (h.still cb.out).still cm.out
      clear om q0 h hr0
      go_wp2_with (at_builtin; refine wpList_cat rfl _ _ rfl (w.heap.size + 2) _ [] rfl OM.out _ _ A n c L rfl hp hl0 (by simp; omega) sm ?_; intro v3 w3 o3 b3)
      rw [List.nil_append] at o3
      obtain ⟨X0, c0, ev, lx0, px0, ox0⟩ := o3.form_at hL.out
      subst ev
      have bx3 := Lib.hid ((bx0.out.still cm.out).below b3)
      have bl3 := Lib.hid (((cb.out.trans cm.out).to_below).trans (b3.mono (by omega)))
      have zs3 := Lib.hid b3.size
      clear o3 b3 hl0 OM r4 hq h4
      go_wp2_with fail
      go_loopw [8, 9] (fun lv i wr => ∃ (j nx cx lo1 : Nat) (X : Option Addr) (v : Value) (K : List Int) (hs : List (List Int)), j ≤ 3 ∧ i = .int .i64 j ∧ lv = .slice X nx cx ∧ nx ≤ cx ∧ Plain X cx ∧ Own wr lo1 wr.heap.size X nx K ∧ w.heap.size + 2 ≤ lo1 ∧ lo1 ≤ wr.heap.size ∧ Hid (BoxD w wr (.slice none 0 0) v) ∧ OwnVRT wr (w.heap.size + 2) lo1 v hs ∧ Below w.heap.size w wr ∧ Hid (DoAt L M n4 j hs K)) (fun _ i _ => 3 - (intOf i).toNat)
      case atStart => exact ⟨0, n, c0, w.heap.size + 2, X0, .slice none 0 0, L, [], Nat.zero_le _, rfl, rfl, lx0, px0, ox0, Nat.le_refl _, Nat.le_trans sm zs3.out, bx3.out, OwnVRT.nil_ _ _ _, bl3.out, hst.out⟩
      case round =>
        obtain ⟨j, nx, cx, lo1, X, v, K, hs, hj, rfl, rfl, hxc, hpx, hown, hlo, hlw, hbox, ho, hb, hD⟩ := hrel
        have hKl := Lib.hid hown.1
        have hln := hD.out.ln
        rw [hKl.out] at hln
        have hhs : hs.length ≤ 3 := by rw [hD.out.hl]; exact hj
        by_cases hlt : j < 3
        · have hjl : (j : Int) < 3 := by omega
          have hmul : n4 * j ≤ n4 * 2 := Nat.mul_le_mul_left _ (by omega)
          have hn4x : n4 ≤ nx := by omega
          have hnx : nx ≤ 52 := by omega
          obtain ⟨b, off, rfl, _, _, hcs⟩ := (h'.still (Chg.of_below hb 0 0)).2 (by omega)
          have hck := hcs j hlt
          have hMj : j < M.length := by rw [hM.out]; exact hlt
          by_cases hz : 0 ≤ M.getD j 0 ∧ M.getD j 0 < (ch nx n4 : Int)
          · have u1 := Lib.hid (unrC_yes (k := (n4 : Int)) (num := M.getD j 0) hD.out.ri ⟨by omega, by rw [hKl.out]; omega⟩ (by rw [hKl.out, show ((n4 : Nat) : Int).toNat = n4 by omega]; exact hz))
            have u2 := Lib.hid (unrV_yes u1.out)
            rw [show ((n4 : Nat) : Int).toNat = n4 by omega] at u2
            obtain ⟨d1, d2⟩ := hD.out.step hMj (by rw [hKl.out]; exact hz)
            have hD' := Lib.hid d1
            have hHl := Lib.hid d2
            clear d1 d2 hD hcs hz hmul
            generalize M.getD j 0 = z at hck u1 u2 hD' hHl
            generalize unrankN K n4 z.toNat = H at u2 hD' hHl
            have hH13 : H.length ≤ 1048576 := by rw [hHl.out]; omega
            have hrl := restL_le K H
            rw [hKl.out] at hrl
            go_wp2_with fail
            refine (spec_UnrankSubset X nx cx (n4 : Int) z K _ _ _ hown.rd (by omega)).mono ?_
            rw [u1.out, u2.out]
            rintro e w1 ⟨D, dc, rfl, ld, pd, od, c1⟩
            have bx1 := Lib.hid (hbox.out.still c1)
            have own1 := hown.still c1
            have z1 := c1.size
            have oT1 := (OwnVRT.of ho.to).kept (fun k _ hk => c1.block k hk (.inr (Nat.zero_le _))) z1
            have hb1 := hb.trans (c1.to_below.mono hb.size)
            have hzb : w.heap.size + 2 ≤ w1.heap.size := by omega
            have hzt : w.heap.size + 2 ≤ wr.heap.size := by omega
            have cc1 := bx1.out.c1
            have ca1 := fun o => box_still cc1 (Chg.of_alloc w1 o 0 0)
            clear hown hbox hb c1 ho
            go_wp2_with (first | (at_builtin; refine wpList_pushRT (w1 := w2) rfl _ _ rfl (w.heap.size + 2) v5 hs rfl wr.heap.size oT2 D dc H od2 ld pd rfl (by omega) hzt (by omega) ?_; intro v6 w4 o4 b4 far; obtain ⟨A2, c2, ea2, _, _⟩ := o4.own; rw [show (hs ++ [H]).length = hs.length + 1 by simp] at ea2; subst ea2; have bx4 := Lib.hid (bx2.out.below b4); have k4 := bx4.out.c1; have f4 := bx4.out.f1; have left5 := Lib.hid ((far _ _ _ _ own2).box bx4.out.b1 (.slice A2 (hs.length + 1) c2)); have hand5 := Lib.hid ((far _ _ _ _ od2).box bx4.out.b1 (.slice A2 (hs.length + 1) c2))) | (at_builtin; refine wpList_catR rfl _ _ rfl (w.heap.size + 2) wr.heap.size v hs rfl oT1 rfl (by omega) hzb ?_; intro v5 w2 oT2 b2; have z2 := b2.size; have od2 : Own w2 wr.heap.size w2.heap.size D H.length H := (od.still (Chg.of_below b2 0 0)).more (Nat.le_refl _) z2; have own2 : Own w2 lo1 w2.heap.size X nx K := (own1.still (Chg.of_below b2 0 0)).more (Nat.le_refl _) (by omega); have bx2 := Lib.hid (bx1.out.still (Chg.of_below b2 0 0))) | (go_at_call 110; refine (l04Rest X D nx cx H.length dc K H _ _ _ _ _ left5.out.rd hand5.out.rd (by omega) hH13).mono ?_; rintro e w6 ⟨v6, rfl, o6, b6⟩; obtain ⟨X6, c6, rfl, l6, p6, own6⟩ := o6.form))
            have z4 := b4.size
            have oT5 := OwnVRT.of (OwnVR.kept (w' := w4.setCell ⟨w.heap.size + 1, 0, none⟩ (.slice A2 (hs.length + 1) c2)) o4 (fun q hq _ => Below.heap_setCell _ _ _ _ (by show q ≠ w.heap.size + 1; omega)) (by simp [World.setCell]))
            have z5 : (w4.setCell ⟨w.heap.size + 1, 0, none⟩ (.slice A2 (hs.length + 1) c2)).heap.size = w4.heap.size := by simp [World.setCell]
            have ch5 := (Chg.of_below ((hb1.trans (b2.mono (by omega))).trans (b4.mono (by omega))) 0 0).cell (g := w.heap.size + 1) (i := 0) (v := .slice A2 (hs.length + 1) c2) (by omega)
            have hb6 := (ch5.trans (Chg.of_below b6 0 0)).to_below
            have bx6 := Lib.hid ((bx4.out.put (.slice A2 (hs.length + 1) c2)).still (Chg.of_below b6 0 0))
            have oT6 := oT5.kept (fun k _ q => b6.block k q) b6.size
            have z6 := b6.size
            have zw5 : w.heap.size + 2 ≤ (w4.setCell ⟨w.heap.size + 1, 0, none⟩ (.slice A2 (hs.length + 1) c2)).heap.size := by rw [z5]; omega
            clear z5 o4 b4 far bx1 bx2 bx4 k4 f4 left5 hand5 o6 ch5 b6 hb1 od od2 own1 own2 cc1 ca1 oT1 oT2 oT5 b2
            go_roundw
            case rel => exact ⟨j + 1, (restL K H).length, c6, _, X6, _, restL K H, hs ++ [H], by omega, by go_num, rfl, l6, p6, own6, zw5, z6, bx6.out, oT6, hb6, hD'.out⟩
            case measure => simp [intOf]; omega
          · have u1 := Lib.hid (unrC_no3 (k := (n4 : Int)) (num := M.getD j 0) hD.out.ri ⟨by omega, by rw [hKl.out]; omega⟩ (by rw [hKl.out, show ((n4 : Nat) : Int).toNat = n4 by omega]; exact hz))
            have u2 := Lib.hid (unrV_no u1.out (by omega))
            have E := hno (hD.out.fail hMj (by rw [hKl.out]; exact hz))
            clear hD hcs hz hmul
            generalize M.getD j 0 = z at hck u1 u2
            go_wp2_with fail
            refine (spec_UnrankSubset X nx cx (n4 : Int) z K _ _ _ hown.rd (by omega)).mono ?_
            rw [u1.out, u2.out]
            rintro e w1 ⟨D, dc, rfl, ld, pd, od, c1⟩
            have bx1 := Lib.hid (hbox.out.still c1)
            have k0 := bx1.out.c0
            have f0 := bx1.out.f0
            have hret := fun u => bx1.out.ret u
            have ch1 := Lib.hid (((Chg.of_below hb 0 0).trans c1).cell (g := w.heap.size) (i := 0) (v := .slice none 0 0) (Nat.le_refl _))
            clear hown hbox hb c1 od ho
            go_wp2_with fail
            (try simp only [Exit.inBlock, Exit.then])
            refine bodyPost_ret (v := .tuple #[.agg #[.slice none 0 0], .int .i64 4]) (by simp [results, Try.results62, go_sem, hret]; try rfl) rfl ?_
            exact RetDI.of_eq E.out.2 E.out.1 ⟨none, 0, rfl, Nat.le_refl _, OwnR.none_, ch1.out⟩
        · obtain rfl : j = 3 := by omega
          have E := hyes _ (hD.out.done (by rw [hM.out]; exact Nat.le_refl _))
          obtain rfl : nx = K.length := hKl.out.symm
          have cc1 := hbox.out.c1
          have ca1 := fun o => box_still cc1 (Chg.of_alloc wr o 0 0)
          have hzb : w.heap.size + 2 ≤ wr.heap.size := by omega
          clear hD hln hKl
          go_wp2_with (first | (at_builtin; refine wpList_pushRT (w1 := w2) rfl _ _ rfl (w.heap.size + 2) v5 hs rfl lo1 oT2 X cx K own2 hxc hpx rfl (by omega) hlo (by omega) ?_; intro v6 w4 o4 b4 far; obtain ⟨A2, c2, ea2, l2, own4⟩ := o4.own; rw [show (hs ++ [K]).length = hs.length + 1 by simp] at ea2 l2 own4; subst ea2; have bx4 := Lib.hid (bx2.out.below b4); have k40 := bx4.out.c0; have f40 := bx4.out.f0; have hret := fun u => bx4.out.ret u) | (at_builtin; refine wpList_catR rfl _ _ rfl (w.heap.size + 2) lo1 v hs rfl ho rfl (by omega) hzb ?_; intro v5 w2 oT2 b2; have z2 := b2.size; have own2 : Own w2 lo1 w2.heap.size X K.length K := (hown.still (Chg.of_below b2 0 0)).more (Nat.le_refl _) z2; have bx2 := Lib.hid (hbox.out.still (Chg.of_below b2 0 0))))
          (try simp only [Exit.inBlock, Exit.then])
          have z4 := b4.size
          have ch4 := Chg.of_below ((hb.trans (b2.mono (by omega))).trans (b4.mono (by omega))) 0 0
          have hfin := own4.chg (w' := w4.setCell ⟨w.heap.size, 0, none⟩ (.slice A2 (hs.length + 1) c2)) ((Chg.refl _ w.heap.size (w.heap.size + 1)).store (b := w.heap.size) (k := 0) (by omega) (by omega) _) (.inr (by omega))
          have hcf := ch4.cell (g := w.heap.size) (i := 0) (v := .slice A2 (hs.length + 1) c2) (by omega)
          refine bodyPost_ret (v := .tuple #[.agg #[.slice A2 (hs.length + 1) c2], .int .i64 0]) (by simp [results, Try.results62, go_sem, hret]; try rfl) rfl ?_
          exact RetDI.of_eq E.out.2 E.out.1 ⟨A2, c2, by rw [show (hs ++ [K]).length = hs.length + 1 by simp], by rw [show (hs ++ [K]).length = hs.length + 1 by simp]; exact l2, by rw [show (hs ++ [K]).length = hs.length + 1 by simp]; exact hfin.more (by omega) (by simp [World.setCell]), hcf⟩
    · obtain ⟨e1, e2⟩ := do_no2 (L := L) (M := M) hd (by rw [hL.out, hM.out]; exact h4)
      have E1 := Lib.hid e1
      have E2 := Lib.hid e2
      clear hd e1 e2
      by_cases r4 : n % 4 = 0
      · have r4' : (n : Int) % 4 = 0 := by omega
        have h3' : ¬ (m : Int) = 3 := by omega
        have h3b : ((m : Int) == 3) = false := by simpa using h3'
        clear h4
        go_enter Try.func62, Try.ntmps62
        go_wp2_with fail
        refine (l01Rising _ _ _ L _ _ _ hr0.out hn).mono ?_
        rw [HD.out]
        rintro e w1 ⟨rfl, c1⟩
        have q1 := (q0.still c1).c
        have f1 := (q0.still c1).f
        have hret := fun u => (q0.still c1).ret u
        have hcf := Lib.hid ((ca.out.trans c1).cell (g := w.heap.size) (i := 0) (v := .slice none 0 0) (Nat.le_refl _))
        clear q0 c1
        go_wp2_with fail
        (try simp only [Exit.inBlock, Exit.then])
        refine bodyPost_ret (v := .tuple #[.agg #[.slice none 0 0], .int .i64 2]) (by simp [results, Try.results62, go_sem, hret]; try rfl) rfl ?_
        exact RetDI.of_eq E2.out E1.out ⟨none, 0, rfl, Nat.le_refl _, OwnR.none_, hcf.out⟩
      · have r4' : ¬ (n : Int) % 4 = 0 := by omega
        have r4b : ((n : Int) % 4 == 0) = false := by simpa using r4'
        clear h4
        go_enter Try.func62, Try.ntmps62
        go_wp2_with fail
        refine (l01Rising _ _ _ L _ _ _ hr0.out hn).mono ?_
        rw [HD.out]
        rintro e w1 ⟨rfl, c1⟩
        have q1 := (q0.still c1).c
        have f1 := (q0.still c1).f
        have hret := fun u => (q0.still c1).ret u
        have hcf := Lib.hid ((ca.out.trans c1).cell (g := w.heap.size) (i := 0) (v := .slice none 0 0) (Nat.le_refl _))
        clear q0 c1
        go_wp2_with fail
        (try simp only [Exit.inBlock, Exit.then])
        refine bodyPost_ret (v := .tuple #[.agg #[.slice none 0 0], .int .i64 2]) (by simp [results, Try.results62, go_sem, hret]; try rfl) rfl ?_
        exact RetDI.of_eq E2.out E1.out ⟨none, 0, rfl, Nat.le_refl _, OwnR.none_, hcf.out⟩
end Go.Proofs.Ytfhfgdgpilpdkaa.Lib1
