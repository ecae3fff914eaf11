/- Chapter 3: the library's Contains and Clone at hands, and the program's mapEach at hands and cards, over function values taken by contracts. -/
import Derived.Test.YteglffbeldlibaaS03o
import Derived.Test.YteglffbeldlibaaBase2
import Derived.Laws.MakeOwn
import Derived.WalkSpells
import Derived.Shelf.Abstract
namespace Go.Proofs.Yteglffbeldlibaa.Lib1
open Go.RowKit
set_option maxRecDepth 100000

/-! ### Index, Contains, Clone -/
theorem Index64 (A : Option Addr) (n c : Nat) (x : Int) (zs : List Int) (lo hi : Nat) (w : World) (h : Rd w lo hi A n zs) (hn : n ≤ 1048576) :
    Calls Try.prog 152 #[.slice A n c, .int .i64 x] w fun e w' => ∃ r : Int, e = .returned (.int .i64 r) ∧ decide (0 ≤ r) = hasB zs x ∧ w = w' := by
  have hz := h.1
  go_enter Try.func152, Try.ntmps152
  go_wp2
  go_loop [8] (fun i => ∃ k : Nat, k ≤ n ∧ i = .int .i64 k ∧ Hid (∀ j, j < k → zs.getD j 0 ≠ x)) (fun i => n - (intOf i).toNat)
  case atStart => exact ⟨0, Nat.zero_le _, rfl, fun j hj => by omega⟩
  case round =>
    obtain ⟨k, hk, rfl, hno⟩ := hrel
    by_cases hlt : k < n
    · have hkl : (k : Int) < (n : Int) := by omega
      obtain ⟨b, off, rfl, _, _, hc⟩ := h.2 (by omega)
      have hck := hc k hlt
      have hy := Lib.hid (fun e : zs.getD k 0 = x => hasB_yes (zs := zs) (x := x) (k := k) (by omega) e)
      have hn' : Hid (zs.getD k 0 ≠ x → ∀ j, j < k + 1 → zs.getD j 0 ≠ x) := fun q j hj => by
        by_cases e : j = k
        · subst e; exact q
        · exact hno.out j (by omega)
      clear hno hc
      generalize zs.getD k 0 = z at hck hy hn'
      by_cases e : x = z
      · subst e
        have hyt := Lib.hid (hy.out rfl)
        clear hy hn'
        go_wp2
        go_ret
        exact ⟨_, rfl, by rw [hyt.out]; simp, rfl⟩
      · have hxz : (x == z) = false := by simpa using e
        go_wp2
        go_round
        case rel => exact ⟨k + 1, by omega, by go_num, hn'.out (fun q => e q.symm)⟩
        case measure => simp [intOf]; omega
    · obtain rfl : k = n := by omega
      have hf : Hid (hasB zs x = false) := hasB_no (fun j hj => hno.out j (by omega))
      go_wp2
      go_ret
      exact ⟨_, rfl, by rw [hf.out]; rfl, rfl⟩
theorem Contains64 (A : Option Addr) (n c : Nat) (x : Int) (zs : List Int) (lo hi : Nat) (w : World) (h : Rd w lo hi A n zs) (hn : n ≤ 1048576) :
    Calls Try.prog 121 #[.slice A n c, .int .i64 x] w fun e w' => e = .returned (.bool (hasB zs x)) ∧ w = w' := by
  go_enter Try.func121, Try.ntmps121
  go_wp2_with fail
  refine (Index64 A n c x zs lo hi _ h hn).mono ?_
  rintro e w1 ⟨r, rfl, hr, rfl⟩
  go_wp2_with fail
  go_ret
  exact ⟨rfl, rfl⟩

theorem Clone64 (A : Option Addr) (n c : Nat) (zs : List Int) (lo hi : Nat) (w : World) (h : Rd w lo hi A n zs) (hn : n ≤ 1048576) (hp : A = none → c = 0) :
    Calls Try.prog 173 #[.slice A n c] w (RetV w zs) := by
  cases A with
  | none =>
    have h0 : n = 0 := by
      rcases Nat.eq_zero_or_pos n with e | e
      · exact e
      · obtain ⟨b, off, e', _⟩ := h.2 e; cases e'
    subst h0
    obtain rfl := hp rfl
    have hz : zs = [] := List.eq_nil_of_length_eq_zero h.1
    subst hz
    have hnil := fun W => Lib.run_eql_slice_nil (P := Try.prog) W 27 2 none 0 0 0 0 Try.underlying27
    go_enter Try.func173, Try.ntmps173
    go_wp2
    go_ret
    exact ⟨_, rfl, OwnV.nil_ _ _, Below.refl _ _⟩
  | some a =>
    have hnil := fun W => Lib.run_eql_slice_nil (P := Try.prog) W 27 2 (some a) n c 0 0 Try.underlying27
    have hm := OwnV.made w (Nat.le_refl _)
    have hr := h.all.still (Chg.of_alloc w (.cells #[] 2) 0 0)
    have hb0 := (Below.refl w.heap.size w).alloc (Nat.le_refl _) (.cells #[] 2)
    have hsz : w.heap.size ≤ (w.alloc (.cells #[] 2)).heap.size := by simp
    go_enter Try.func173, Try.ntmps173
    go_wp2_with (at_builtin; refine wpList_cat rfl _ _ rfl w.heap.size _ _ rfl hm 0 w.heap.size (some a) n c zs rfl (fun e => by cases e) hr (by simpa using hn) hsz ?_; intro v' w2 ho2 hb2)
    go_ret
    exact ⟨_, rfl, by simpa using ho2, hb0.trans hb2⟩
theorem copyHand (A : Option Addr) (n c : Nat) (zs : List Int) (lo hi : Nat) (w : World) (h : Rd w lo hi A n zs) (hn : n ≤ 1048576) (hp : A = none → c = 0) :
    Calls Try.prog 148 #[.slice A n c] w (RetV w zs) := by
  go_enter Try.func148, Try.ntmps148
  go_wp2_with (go_at_call 173; refine (Clone64 A n c zs lo hi _ h hn hp).mono ?_; rintro e w1 ⟨v, rfl, o1, b1⟩)
  go_ret
  exact ⟨_, rfl, o1, b1⟩

/-! ### mapEach -/
theorem make_room64 (n : Nat) (hn : n ≤ 1048576) (w : World) : (Instr.makeSlice 27 (.int .i64 0) (.int .i64 (n : Int))).run Try.prog w = .ok (.slice (some ⟨w.heap.size, 0, none⟩) 0 n) (w.alloc (.cells (madeCells #[.int .i64 0] n) 2)) := by
  obtain ⟨i0, hi0, hz0, hz1, hz2⟩ := info_parts cells_info
  have hr := run_make (P := Try.prog) w 27 2 i0 (.int .i64 0) Try.underlying27 hi0 hz0 .i64 .i64 0 (n : Int) (Int.le_refl _) (by omega) (by rw [hz2]; omega) (by omega)
  simpa [hz1, Value.cells] using hr
theorem OwnV.room (w : World) {base : Nat} (hb : base ≤ w.heap.size) (n : Nat) (hn : n ≤ 1048576) : OwnV (w.alloc (.cells (madeCells #[.int .i64 0] n) 2)) base (.slice (some ⟨w.heap.size, 0, none⟩) 0 n) [] :=
  World.ownsRow_made w _ n hb (by unfold maxLen; omega) (by rw [size_madeCells]; simp)

/-! ### Hands of hands -/
theorem wpList_pushR {w w1 : World} {ops : Array Oper} {rest : List Oper} {o : Oper} {a : Act} {Q : Exit → Act → World → Prop} (hgd : o.guard = none) (s x : Operand)
    (ho : o.op = .call { callee := .builtin .append, args := #[s, x], argTypes := #[24, 24] })
    (base : Nat) (v : Value) (zss : List (List Int)) (hs : a.eval s = v) (h : OwnVR w base v zss) (hk : ∀ k, base ≤ k → k < w.heap.size → w1.heap[k]? = w.heap[k]?) (hz : w.heap.size ≤ w1.heap.size)
    (D : Option Addr) (c : Nat) (ys : List Int) (hr : Own w1 w.heap.size w1.heap.size D ys.length ys) (hc : ys.length ≤ c) (hp : Plain D c)
    (hx : a.eval x = .slice (some ⟨w1.heap.size, 0, none⟩) 1 1) (hn : zss.length ≤ 1048576) (hbase : base ≤ w.heap.size)
    (hK : ∀ v' w2, OwnVR w2 base v' (zss ++ [ys]) → Below base w1 w2 → wpList Try.prog ops Q rest (a.put o.dst v') w2) :
    wpList Try.prog ops Q (o :: rest) a (w1.alloc (.cells #[.slice D ys.length c] 27)) :=
  wpList_plain hgd fun _ hK' => wp_pushR s x ho base v zss hs h hk hz D c ys hr hc hp hx hn hbase fun v' w2 h1 h2 => hK' _ _ (hK v' w2 h1 h2)
theorem make_roomR (n : Nat) (hn : n ≤ 1048576) (w : World) : (Instr.makeSlice 24 (.int .i64 0) (.int .i64 (n : Int))).run Try.prog w = .ok (.slice (some ⟨w.heap.size, 0, none⟩) 0 n) (w.alloc (.cells (madeCells #[.slice none 0 0] n) 27)) := by
  obtain ⟨i0, hi0, hz0, hz1, hz2⟩ := info_parts rows_info
  have hr := run_make (P := Try.prog) w 24 27 i0 (.slice none 0 0) Try.underlying24 hi0 hz0 .i64 .i64 0 (n : Int) (Int.le_refl _) (by omega) (by rw [hz2]; omega) (by omega)
  simpa [hz1, Value.cells] using hr
theorem OwnVR.room (w : World) {base : Nat} (hb : base ≤ w.heap.size) (n : Nat) (hn : n ≤ 1048576) : OwnVR (w.alloc (.cells (madeCells #[.slice none 0 0] n) 27)) base (.slice (some ⟨w.heap.size, 0, none⟩) 0 n) [] :=
  ⟨fun _ => none, fun _ => 0, World.ownsRow_made w _ n hb (by unfold maxLen; omega) (by rw [size_madeCells]; simp), fun _ h => absurd h (by simp), fun _ _ _ h => absurd h (by simp)⟩
/-- A function hands back rows of the call's own. -/
def RetVR (w : World) (zss : List (List Int)) (e : Ending) (w' : World) : Prop := ∃ v, e = .returned v ∧ OwnVR w' w.heap.size v zss ∧ Below w.heap.size w w'
set_option maxHeartbeats 1000000 in
/-- mapEach over hands. -/
theorem mapRR {f : Nat} {caps : Array Value} {g : List Int → List Int} (he : ∀ args w, (callFunc f args).run Try.prog w = .ok (.enter f args) w)
    (A : Option Addr) (n c : Nat) (zss : List (List Int)) (lo hi : Nat) (w : World) (h : RdR w lo hi A n zss) (hhi : hi ≤ w.heap.size) (hn : n ≤ 1048576)
    (hf : ∀ j, j < n → ∀ B C W, Below w.heap.size w W → Rd W lo hi B (zss.getD j []).length (zss.getD j []) → (zss.getD j []).length ≤ C → (B = none → C = 0) → Calls Try.prog f (#[.slice B (zss.getD j []).length C] ++ caps) W (RetS W (g (zss.getD j [])))) :
    Calls Try.prog 147 #[.slice A n c, .func (.func f) #[] caps] w (RetVR w (zss.map g)) := by
  have hz := h.1
  have hmk := make_roomR n hn
  have ho0 := Lib.hid (OwnVR.room w (Nat.le_refl _) n hn)
  have hb0 := Lib.hid ((Below.refl w.heap.size w).alloc (Nat.le_refl _) (.cells (madeCells #[.slice none 0 0] n) 27))
  go_enter Try.func147, Try.ntmps147
  go_wp2
  clear hmk
  go_loopw [5, 13] (fun v i wr => ∃ k : Nat, k ≤ n ∧ i = .int .i64 k ∧ OwnVR wr w.heap.size v ((zss.take k).map g) ∧ Below w.heap.size w wr) (fun _ i _ => n - (intOf i).toNat)
  case atStart => exact ⟨0, Nat.zero_le _, rfl, ho0.out, hb0.out⟩
  case round =>
    obtain ⟨k, hk, rfl, ho, hb⟩ := hrel
    by_cases hlt : k < n
    · have hkl : (k : Int) < (n : Int) := by omega
      obtain ⟨b, off, B, C, rfl, _, _, hck, hrd, hlC, hBn⟩ := (h.below hb hhi).at_ hlt
      have hfk := hf k hlt B C wr hb hrd hlC hBn
      have hs : Hid ((zss.take (k + 1)).map g = (zss.take k).map g ++ [g (zss.getD k [])]) := by show _ = _; rw [take_row (by omega), List.map_append]; rfl
      have hl : ((zss.take k).map g).length ≤ 1048576 := by simp; omega
      have hsz := hb.size
      clear hf hrd hBn
      generalize g (zss.getD k []) = gz at hfk hs
      generalize zss.getD k [] = z at hck hfk hlC
      generalize (zss.take k).map g = ys at ho hs hl
      go_wp2_with (first | (refine hfk.mono ?_; rintro e w1 ⟨D, dc, rfl, hd1, hd2, hd3, c1⟩) | (at_builtin; refine wpList_pushR rfl _ _ rfl w.heap.size _ _ rfl ho (fun q _ hq => c1.block q hq (.inr (Nat.zero_le _))) c1.size D dc gz hd3 hd1 hd2 rfl hl hsz ?_; intro v3 w3 o3 b3))
      rw [← hs.out] at o3
      have hb3 := (Chg.above hb c1 hsz (.inr rfl)).trans b3
      clear ho hb c1 hd3 b3 hs
      go_roundw
      case rel => exact ⟨k + 1, by omega, by go_num, o3, hb3⟩
      case measure => simp [intOf]; omega
    · obtain rfl : k = n := by omega
      rw [List.take_of_length_le (by omega)] at ho
      go_wp2
      go_ret
      exact ⟨_, rfl, ho, hb⟩

end Go.Proofs.Yteglffbeldlibaa.Lib1
