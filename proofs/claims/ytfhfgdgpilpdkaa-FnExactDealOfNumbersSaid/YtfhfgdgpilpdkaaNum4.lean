/- Chapter 4: the program's numbersOf over its interface of ranked things. (Written by wip/mknum4.py.) -/
import Derived.Test.YtfhfgdgpilpdkaaDel4
import Derived.Test.YtfhfgdgpilpdkaaCardsI
import Derived.Test.YtfhfgdgpilpdkaaDraws
namespace Go.Proofs.Ytfhfgdgpilpdkaa.Lib1
open Go.RowKit
set_option maxRecDepth 100000

theorem as_sub (v : Value) (w : World) : (Instr.typeAssert (.iface 91 v) 121 91 true).run Try.prog w = .ok (.tuple #[v, .bool true]) w := by kernel_rfl
theorem as_deal (v : Value) (w : World) : (Instr.typeAssert (.iface 95 v) 121 95 true).run Try.prog w = .ok (.tuple #[v, .bool true]) w := by kernel_rfl
theorem as_not (v : Value) (w : World) : (Instr.typeAssert (.iface 95 v) 121 91 true).run Try.prog w = .ok (.tuple #[.agg #[.slice none 0 0, .slice none 0 0], .bool false]) w := by kernel_rfl

/-- What a thing's pool is. -/
def Pool (L : List Int) (w : World) (e : Ending) (w' : World) : Prop := ∃ X n c, e = .returned (.slice X n c) ∧ Rd w' 0 w'.heap.size X n L ∧ (X = none → c = 0) ∧ Below w.heap.size w w'
/-- What is chosen. -/
def Choices (k : Nat) (rows : List (List Int)) (w : World) (e : Ending) (w' : World) : Prop := ∃ g off c, e = .returned (.slice (some ⟨g, off, none⟩) k c) ∧ RdR w' 0 w'.heap.size (some ⟨g, off, none⟩) k rows ∧ Below w.heap.size w w'

theorem pool_sub (A B : Option Addr) (n c m d : Nat) (L : List Int) (w : World) (h : Rd w 0 w.heap.size A n L) (hp : A = none → c = 0) :
    Calls Try.prog 178 #[.agg #[.slice A n c, .slice B m d]] w (Pool L w) := by
  have ba := Lib.hid ((Below.refl w.heap.size w).alloc (Nat.le_refl _) (.cells #[.slice A n c, .slice B m d] 91))
  have hh := Lib.hid (h.below ba.out (Nat.le_refl _)).all
  clear h
  go_enter Try.func178, Try.ntmps178
  go_wp2
  go_ret
  exact ⟨_, _, _, rfl, hh.out, hp, ba.out⟩

theorem choices_sub (A B : Option Addr) (n c m d : Nat) (S : List Int) (w : World) (h : Rd w 0 w.heap.size B m S) (hd : m ≤ d) (hp : B = none → d = 0) :
    Calls Try.prog 136 #[.iface 91 (.agg #[.slice A n c, .slice B m d])] w (Choices 1 [S] w) := by
  have ha := as_sub (.agg #[.slice A n c, .slice B m d])
  have hz := h.1
  have bb : Hid (Below w.heap.size w ((w.alloc (.cells #[.slice A n c, .slice B m d] 91)).alloc (.cells #[.slice B m d] 27))) :=
    ((Below.refl w.heap.size w).alloc (Nat.le_refl _) _).alloc (by simp) _
  have hh := Lib.hid (h.below bb.out (Nat.le_refl _)).all
  have hc : Hid (((w.alloc (.cells #[.slice A n c, .slice B m d] 91)).alloc (.cells #[.slice B m d] 27)).cell? ⟨w.heap.size + 1, 0, none⟩ = some (.slice B m d)) := by
    have := box_at (w.alloc (.cells #[.slice A n c, .slice B m d] 91)) (.slice B m d) 27
    rwa [show (w.alloc (.cells #[.slice A n c, .slice B m d] 91)).heap.size = w.heap.size + 1 by simp] at this
  have hl : Hid (w.heap.size + 1 < ((w.alloc (.cells #[.slice A n c, .slice B m d] 91)).alloc (.cells #[.slice B m d] 27)).heap.size) := lt_of_cell hc.out
  clear h
  go_enter Try.func136, Try.ntmps136
  go_wp2
  go_ret
  refine ⟨w.heap.size + 1, 0, 1, rfl, ⟨rfl, fun _ => B, fun _ => d, fun _ => ⟨_, _, rfl, Nat.zero_le _, hl.out, fun j hj => ?_⟩, fun j hj => ?_⟩, bb.out⟩
  · obtain rfl : j = 0 := by omega
    rw [show ([S].getD 0 []).length = m from hz]; exact hc.out
  · obtain rfl : j = 0 := by omega
    rw [show [S].getD 0 [] = S from rfl, hz]; exact ⟨hh.out, hd, hp⟩

theorem Rd.keptBut {w w' : World} {lo hi : Nat} {A : Option Addr} {n : Nat} {zs : List Int} (r : Rd w lo hi A n zs) (hk : ∀ k, lo ≤ k → k < w.heap.size → w'.heap[k]? = w.heap[k]?) : Rd w' lo hi A n zs :=
  ⟨r.1, fun hn => by
    obtain ⟨b, off, e, h1, h2, hc⟩ := r.2 hn
    exact ⟨b, off, e, h1, h2, fun j hj => by rw [World.cell?_of_block (hk b h1 (lt_of_cell (hc j hj)))]; exact hc j hj⟩⟩

/-- wpList_push, which tells also that no other block turns. -/
theorem wpList_pushK {w : World} {ops : Array Oper} {rest : List Oper} {o : Oper} {a : Act} {Q : Exit → Act → World → Prop} (hgd : o.guard = none) (s x : Operand)
    (ho : o.op = .call { callee := .builtin .append, args := #[s, x], argTypes := #[27, 27] })
    (base : Nat) (v : Value) (zs : List Int) (hs : a.eval s = v) (hown : OwnV w base v zs) (z : Int)
    (hx : a.eval x = .slice (some ⟨w.heap.size, 0, none⟩) 1 1) (hn : zs.length ≤ 1048576) (hbase : base ≤ w.heap.size)
    (h : ∀ v' w', OwnV w' base v' (zs ++ [z]) → Below base w w' → (∀ k, k < w.heap.size → v.ownBlock ≠ some k → w'.heap[k]? = w.heap[k]?) → wpList Try.prog ops Q rest (a.put o.dst v') w') : wpList Try.prog ops Q (o :: rest) a (w.alloc (.cells #[.int .i64 z] 2)) := by
  obtain ⟨i0, hi0, hz0, hz1, hz2⟩ := info_parts cells_info
  refine wpList_append_own _ hgd s x 27 ho base 2 i0 (.int .i64 0) 1 8 Try.underlying27 hi0 hz0 hz1 hz2 rfl (by decide) v zs.length (zs.map (Value.int .i64)) hs (hown.alloc _)
    ⟨w.heap.size, 0, none⟩ 1 1 [.int .i64 z] hx rfl ?_ ?_ ?_ ?_ ?_ ?_
  · intro j u hj
    match j, hj with
    | 0, hj => simp at hj; subst hj; simp [Addr.add]
  · intro u hu; simp at hu; subst hu; rfl
  · unfold maxLen; omega
  · omega
  · simp; omega
  · intro v' w' h1 h2 _
    refine h v' w' ?_ ?_ ?_
    · unfold OwnV; simpa using h1
    · have hb : Below base w (w.alloc (.cells #[.int .i64 z] 2)) := (Below.refl _ _).alloc hbase _
      exact hb.grown h2 (by simp; omega) hown.block
    · intro k hk hne
      exact (h2.block k (by simp; omega) (fun e => hne e.symm)).trans (Below.heap_alloc w _ k hk)

theorem OwnV.block_lt {w : World} {base : Nat} {v : Value} {zs : List Int} (h : OwnV w base v zs) : ∀ k, v.ownBlock = some k → k < w.heap.size := by
  rcases h.2 with ⟨rfl, _⟩ | ⟨g, cap, cur, rfl, hg, hh, _⟩
  · intro k hk; simp [Value.ownBlock] at hk
  · intro k hk; simp [Value.ownBlock] at hk; subst hk; exact lt_of_block hh

theorem nums_step {L : List Int} {rows : List (List Int)} {j : Nat} (hj : j < rows.length) : numsL L (rows.drop j) = (rankN L (rows.getD j []) : Int) :: numsL (restL L (rows.getD j [])) (rows.drop (j + 1)) := by
  rw [List.drop_eq_getElem_cons hj, numsL, getD_row hj]
theorem nums_end {L : List Int} {rows : List (List Int)} {j : Nat} (hj : rows.length ≤ j) : numsL L (rows.drop j) = [] := by rw [List.drop_of_length_le hj]; rfl

set_option maxHeartbeats 4000000 in
theorem numbers_sub (A B0 : Option Addr) (n c m d : Nat) (L : List Int) (rows : List (List Int)) (k : Nat) (w : World) (hk : k ≤ 3)
    (hL : L.length ≤ 52) (hR : ∀ j, (rows.getD j []).length ≤ 52)
    (hpool : Calls Try.prog 178 #[.agg #[.slice A n c, .slice B0 m d]] w (Pool L w))
    (hch : ∀ w1, Below w.heap.size w w1 → Calls Try.prog 136 #[.iface 91 (.agg #[.slice A n c, .slice B0 m d])] w1 (Choices k rows w1)) :
    Calls Try.prog 96 #[.iface 91 (.agg #[.slice A n c, .slice B0 m d])] w (RetV w (numsL L rows)) := by
  go_enter Try.func96, Try.ntmps96
  go_wp2_with fail
  refine hpool.mono ?_
  rintro e w1 ⟨X0, nx0, cx0, rfl, r1, p1, b1⟩
  have hc1 := hch w1 b1
  clear hpool hch
  go_wp2_with fail
  refine hc1.mono ?_
  rintro e w2 ⟨g, off, c2, rfl, hrows, b2⟩
  have r2 := Lib.hid (r1.below b2 (Nat.le_refl _)).all
  have HRL := Lib.hid hrows.1
  have HX := Lib.hid r1.1
  have B2 := Lib.hid (b1.trans (b2.mono b1.size))
  have z12 := Lib.hid (Nat.le_trans b1.size b2.size)
  clear r1 b1 b2 hc1
  go_wp2_with fail
  go_loopw [3, 4, 12] (fun lv nv i wr => ∃ (j lo nx cx : Nat) (X : Option Addr) (Lj ys : List Int), j ≤ k ∧ i = .int .i64 j ∧ lv = .slice X nx cx ∧ nx ≤ 52 ∧ (X = none → cx = 0) ∧ Rd wr lo wr.heap.size X nx Lj ∧ OwnV wr w2.heap.size nv ys ∧ (∀ q, nv.ownBlock = some q → q < lo) ∧ Below w2.heap.size w2 wr ∧ Hid (numsL L rows = ys ++ numsL Lj (rows.drop j) ∧ ys.length = j)) (fun _ _ i _ => k - (intOf i).toNat)
  case atStart => exact ⟨0, 0, nx0, cx0, X0, L, [], Nat.zero_le _, rfl, rfl, by rw [← HX.out]; exact hL, p1, r2.out, OwnV.nil_ _ _, (fun q hq => by simp [Value.ownBlock] at hq), Below.refl _ _, by exact ⟨by simp, rfl⟩⟩
  case round =>
    obtain ⟨j, lo, nx, cx, X, Lj, ys, hj, rfl, rfl, hnx, hpx, hrd, ho, hdis, hb, hN⟩ := hrel
    by_cases hlt : j < k
    · have hjl : (j : Int) < (k : Int) := by omega
      have hjr : j < rows.length := by rw [HRL.out]; exact hlt
      obtain ⟨g', off', B, C, eg, _, _, hcell, hrow, _, _⟩ := (hrows.below hb (Nat.le_refl _)).at_ hlt
      cases eg
      have hr52 := hR j
      have hst := Lib.hid (nums_step (L := Lj) hjr)
      have hylen : ys.length ≤ 1048576 := by rw [hN.out.2]; omega
      have hsize := hb.size
      have hN' : Hid (numsL L rows = (ys ++ [(rankN Lj (rows.getD j []) : Int)]) ++ numsL (restL Lj (rows.getD j [])) (rows.drop (j + 1)) ∧ (ys ++ [(rankN Lj (rows.getD j []) : Int)]).length = j + 1) := by
        refine ⟨?_, by simp [hN.out.2]⟩
        rw [hN.out.1, hst.out]; simp
      clear hst hN hjr
      generalize rows.getD j [] = R at hcell hrow hr52 hN'
      go_wp2_with fail
      refine (subsetNumber X B nx cx R.length C Lj R _ _ _ _ _ hrd hrow hnx hr52).mono ?_
      rintro e w' ⟨rfl, rfl⟩
      have hrl := restL_le Lj R
      have hLj := hrd.1
      have hnr : R.length ≤ 1048576 := by omega
      have hnx' : nx ≤ 1048576 := by omega
      go_wp2_with (first | (at_builtin; refine wpList_pushK rfl _ _ rfl w2.heap.size _ _ rfl ho _ rfl hylen hsize ?_; intro v3 w3 o3 b3 k3; have hrd3 := hrd.keptBut (w' := w3) (fun q h1 h2 => k3 q h2 (fun e => by have := hdis q e; omega)); have hrow3 := hrow.below b3 (Nat.le_refl _)) | (go_at_call 95; refine (listWithout X B nx cx R.length C Lj R _ _ _ _ _ hrd3 hrow3 hnx' hnr hpx).mono ?_; rintro e w4 ⟨v4, rfl, o4, b4⟩; obtain ⟨X4, c4, rfl, l4, pl4, own4⟩ := o4.form))
      have hb3 := hb.trans b3
      have hd3 := o3.block_lt
      have hb4 := hb3.trans (b4.mono hb3.size)
      have o34 := o3.kept b4
      clear ho hb b3 k3 hrd3 hrow3 hrd hrow hdis o4 b4 o3 hcell
      go_roundw
      case rel => exact ⟨j + 1, w3.heap.size, (restL Lj R).length, c4, X4, restL Lj R, _, by omega, by go_num, rfl, by omega, pl4.nil, own4.rd, o34, hd3, hb4, hN'⟩
      case measure => simp [intOf]; omega
    · obtain rfl : j = k := by omega
      have hf : Hid (numsL L rows = ys) := by show _ = _; rw [hN.out.1, nums_end (by rw [HRL.out]; exact Nat.le_refl _), List.append_nil]
      clear hN
      go_wp2_with fail
      go_ret
      exact ⟨_, rfl, by rw [hf.out]; exact ho.more z12.out, B2.out.trans (hb.mono z12.out)⟩

set_option maxHeartbeats 4000000 in
theorem numbers_deal (A : Option Addr) (n c : Nat) (L : List Int) (rows : List (List Int)) (k : Nat) (w : World) (hk : k ≤ 3)
    (hL : L.length ≤ 52) (hR : ∀ j, (rows.getD j []).length ≤ 52)
    (hpool : Calls Try.prog 179 #[.agg #[.slice A n c]] w (Pool L w))
    (hch : ∀ w1, Below w.heap.size w w1 → Calls Try.prog 136 #[.iface 95 (.agg #[.slice A n c])] w1 (Choices k rows w1)) :
    Calls Try.prog 96 #[.iface 95 (.agg #[.slice A n c])] w (RetV w (numsL L rows)) := by
  go_enter Try.func96, Try.ntmps96
  go_wp2_with fail
  refine hpool.mono ?_
  rintro e w1 ⟨X0, nx0, cx0, rfl, r1, p1, b1⟩
  have hc1 := hch w1 b1
  clear hpool hch
  go_wp2_with fail
  refine hc1.mono ?_
  rintro e w2 ⟨g, off, c2, rfl, hrows, b2⟩
  have r2 := Lib.hid (r1.below b2 (Nat.le_refl _)).all
  have HRL := Lib.hid hrows.1
  have HX := Lib.hid r1.1
  have B2 := Lib.hid (b1.trans (b2.mono b1.size))
  have z12 := Lib.hid (Nat.le_trans b1.size b2.size)
  clear r1 b1 b2 hc1
  go_wp2_with fail
  go_loopw [3, 4, 12] (fun lv nv i wr => ∃ (j lo nx cx : Nat) (X : Option Addr) (Lj ys : List Int), j ≤ k ∧ i = .int .i64 j ∧ lv = .slice X nx cx ∧ nx ≤ 52 ∧ (X = none → cx = 0) ∧ Rd wr lo wr.heap.size X nx Lj ∧ OwnV wr w2.heap.size nv ys ∧ (∀ q, nv.ownBlock = some q → q < lo) ∧ Below w2.heap.size w2 wr ∧ Hid (numsL L rows = ys ++ numsL Lj (rows.drop j) ∧ ys.length = j)) (fun _ _ i _ => k - (intOf i).toNat)
  case atStart => exact ⟨0, 0, nx0, cx0, X0, L, [], Nat.zero_le _, rfl, rfl, by rw [← HX.out]; exact hL, p1, r2.out, OwnV.nil_ _ _, (fun q hq => by simp [Value.ownBlock] at hq), Below.refl _ _, by exact ⟨by simp, rfl⟩⟩
  case round =>
    obtain ⟨j, lo, nx, cx, X, Lj, ys, hj, rfl, rfl, hnx, hpx, hrd, ho, hdis, hb, hN⟩ := hrel
    by_cases hlt : j < k
    · have hjl : (j : Int) < (k : Int) := by omega
      have hjr : j < rows.length := by rw [HRL.out]; exact hlt
      obtain ⟨g', off', B, C, eg, _, _, hcell, hrow, _, _⟩ := (hrows.below hb (Nat.le_refl _)).at_ hlt
      cases eg
      have hr52 := hR j
      have hst := Lib.hid (nums_step (L := Lj) hjr)
      have hylen : ys.length ≤ 1048576 := by rw [hN.out.2]; omega
      have hsize := hb.size
      have hN' : Hid (numsL L rows = (ys ++ [(rankN Lj (rows.getD j []) : Int)]) ++ numsL (restL Lj (rows.getD j [])) (rows.drop (j + 1)) ∧ (ys ++ [(rankN Lj (rows.getD j []) : Int)]).length = j + 1) := by
        refine ⟨?_, by simp [hN.out.2]⟩
        rw [hN.out.1, hst.out]; simp
      clear hst hN hjr
      generalize rows.getD j [] = R at hcell hrow hr52 hN'
      go_wp2_with fail
      refine (subsetNumber X B nx cx R.length C Lj R _ _ _ _ _ hrd hrow hnx hr52).mono ?_
      rintro e w' ⟨rfl, rfl⟩
      have hrl := restL_le Lj R
      have hLj := hrd.1
      have hnr : R.length ≤ 1048576 := by omega
      have hnx' : nx ≤ 1048576 := by omega
      go_wp2_with (first | (at_builtin; refine wpList_pushK rfl _ _ rfl w2.heap.size _ _ rfl ho _ rfl hylen hsize ?_; intro v3 w3 o3 b3 k3; have hrd3 := hrd.keptBut (w' := w3) (fun q h1 h2 => k3 q h2 (fun e => by have := hdis q e; omega)); have hrow3 := hrow.below b3 (Nat.le_refl _)) | (go_at_call 95; refine (listWithout X B nx cx R.length C Lj R _ _ _ _ _ hrd3 hrow3 hnx' hnr hpx).mono ?_; rintro e w4 ⟨v4, rfl, o4, b4⟩; obtain ⟨X4, c4, rfl, l4, pl4, own4⟩ := o4.form))
      have hb3 := hb.trans b3
      have hd3 := o3.block_lt
      have hb4 := hb3.trans (b4.mono hb3.size)
      have o34 := o3.kept b4
      clear ho hb b3 k3 hrd3 hrow3 hrd hrow hdis o4 b4 o3 hcell
      go_roundw
      case rel => exact ⟨j + 1, w3.heap.size, (restL Lj R).length, c4, X4, restL Lj R, _, by omega, by go_num, rfl, by omega, pl4.nil, own4.rd, o34, hd3, hb4, hN'⟩
      case measure => simp [intOf]; omega
    · obtain rfl : j = k := by omega
      have hf : Hid (numsL L rows = ys) := by show _ = _; rw [hN.out.1, nums_end (by rw [HRL.out]; exact Nat.le_refl _), List.append_nil]
      clear hN
      go_wp2_with fail
      go_ret
      exact ⟨_, rfl, by rw [hf.out]; exact ho.more z12.out, B2.out.trans (hb.mono z12.out)⟩

end Go.Proofs.Ytfhfgdgpilpdkaa.Lib1
