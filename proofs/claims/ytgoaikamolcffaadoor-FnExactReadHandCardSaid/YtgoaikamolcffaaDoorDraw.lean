/- Contracts of the draws of chapter 1: the source of numbers, the numbers it hands out, a card, a card's text. What is drawn is left open but for its range. -/
import Derived.Test.YtgoaikamolcffaaDoorRead
import Derived.Test.YtgoaikamolcffaaDoorLaw
import Derived.Test.YtgoaikamolcffaaDoorOwn
import Derived.Laws.AppendOwnNone
namespace Go.Proofs.YtgoaikamolcffaaDoor.Lib1
open Go.RowKit

/-- A slice of n bytes, in a block below g. -/
def RdB (w : World) (g : Nat) (A : Option Addr) (n : Nat) : Prop :=
  0 < n → ∃ b off, A = some ⟨b, off, none⟩ ∧ b < g ∧ ∀ j, j < n → ∃ x : Int, 0 ≤ x ∧ x ≤ 255 ∧ w.cell? ⟨b, off + j, none⟩ = some (.int .u8 x)
theorem RdB.chg {w w' : World} {g : Nat} {A : Option Addr} {n lo hi : Nat} (r : RdB w g A n) (c : Chg w w' lo hi) (h : g ≤ lo ∨ hi = 0) : RdB w' g A n := by
  intro hn
  obtain ⟨b, off, e, hb, hc⟩ := r hn
  refine ⟨b, off, e, hb, fun j hj => ?_⟩
  obtain ⟨x, h0, h1, hx⟩ := hc j hj
  exact ⟨x, h0, h1, by rw [World.cell?_of_block (c.block b (lt_of_cell hx) (by omega))]; exact hx⟩

/-- A source of numbers in block g. -/
def Src (w : World) (g : Nat) : Prop :=
  ∃ (A : Option Addr) (n c a : Nat) (s : Int), w.heap[g]? = some (.cells #[.slice A n c, .int .i64 a, .int .i64 s] 55 (0, 0)) ∧ a ≤ n ∧ n ≤ 1048576 ∧ 0 ≤ s ∧ s ≤ 2147483646 ∧ RdB w g A n
theorem Src.chg {w w' : World} {g lo hi : Nat} (h : Src w g) (c : Chg w w' lo hi) (hd : g < lo ∨ hi = 0) : Src w' g := by
  obtain ⟨A, n, cc, a, s, hb, h1, h2, h3, h4, h5⟩ := h
  exact ⟨A, n, cc, a, s, (c.block g (lt_of_block hb) (by omega)).trans hb, h1, h2, h3, h4, h5.chg c (by omega)⟩
theorem Src.still {w w' : World} {g : Nat} (h : Src w g) (c : Chg w w' 0 0) : Src w' g := by
  obtain ⟨A, n, cc, a, s, hb, h1, h2, h3, h4, h5⟩ := h
  exact ⟨A, n, cc, a, s, (c.block g (lt_of_block hb) (.inr (Nat.zero_le _))).trans hb, h1, h2, h3, h4, h5.chg c (.inr rfl)⟩
theorem Src.lt {w : World} {g : Nat} (h : Src w g) : g < w.heap.size := by
  obtain ⟨A, n, cc, a, s, hb, _⟩ := h
  exact lt_of_block hb

/-- What a draw from the source in block g leaves. -/
def Drew (g : Nat) (w : World) (P : Int → Prop) (e : Ending) (w' : World) : Prop := ∃ r : Int, e = .returned (.int .i64 r) ∧ P r ∧ Src w' g ∧ Chg w w' g (g + 1)

theorem block_set {w : World} {g i : Nat} {cs : Array Value} {t : TypeId} (h : w.heap[g]? = some (.cells cs t (0, 0))) (v : Value) : (w.setCell ⟨g, i, none⟩ v).heap[g]? = some (.cells (cs.setIfInBounds i v) t (0, 0)) := by
  simp [World.setCell, Array.getElem?_modify, h]

theorem modP (y m : Int) (h : 1 < m) : 0 ≤ y % m ∧ (1 ≤ m → y % m < m) := ⟨Int.emod_nonneg _ (by omega), fun _ => Int.emod_lt_of_pos _ (by omega)⟩
theorem chg_set (w : World) (g i : Nat) (v : Value) : Chg w (w.setCell ⟨g, i, none⟩ v) g (g + 1) := (Chg.refl w g (g + 1)).store (Nat.le_refl _) (Nat.lt_succ_self _) v
theorem drew1 {g : Nat} {w : World} {A : Option Addr} {n c a q : Nat} {s s' r : Int} {P : Int → Prop}
    (hb : w.heap[g]? = some (.cells #[.slice A n c, .int .i64 a, .int .i64 s] 55 (0, 0))) (hr : RdB w g A n) (ha : a ≤ n) (hn : n ≤ 1048576) (h0 : 0 ≤ s') (h1 : s' ≤ 2147483646) (hp : P r) :
    Drew g w P (.returned (.int .i64 r)) ((w.setCell ⟨g, 2, none⟩ (.int .i64 s')).drewN q) :=
  ⟨r, rfl, hp, ⟨A, n, c, a, s', block_set (i := 2) hb _, ha, hn, h0, h1, (hr.chg (chg_set w g 2 _) (.inl (Nat.le_refl _))).chg (Chg.drewN _ q 0 0) (.inr rfl)⟩, (chg_set w g 2 _).trans (Chg.drewN _ _ _ _)⟩
theorem drew2 {g : Nat} {w : World} {A : Option Addr} {n c a q : Nat} {s s' r : Int} {P : Int → Prop}
    (hb : w.heap[g]? = some (.cells #[.slice A n c, .int .i64 a, .int .i64 s] 55 (0, 0))) (hr : RdB w g A n) (_ha : a ≤ n) (hlt : a < n) (hn : n ≤ 1048576) (h0 : 0 ≤ s') (h1 : s' ≤ 2147483646) (hp : P r) :
    Drew g w P (.returned (.int .i64 r)) (((w.setCell ⟨g, 2, none⟩ (.int .i64 s')).setCell ⟨g, 1, none⟩ (.int .i64 ((a : Int) + 1))).drewN q) :=
  ⟨r, rfl, hp, ⟨A, n, c, a + 1, s', block_set (i := 1) (block_set (i := 2) hb _) _, hlt, hn, h0, h1, ((hr.chg (chg_set w g 2 _) (.inl (Nat.le_refl _))).chg (chg_set _ g 1 _) (.inl (Nat.le_refl _))).chg (Chg.drewN _ q 0 0) (.inr rfl)⟩, ((chg_set w g 2 _).trans (chg_set _ g 1 _)).trans (Chg.drewN _ _ _ _)⟩

theorem drew3 {g : Nat} {w : World} {A : Option Addr} {n c a q q' : Nat} {s s' r : Int} {P : Int → Prop}
    (hb : w.heap[g]? = some (.cells #[.slice A n c, .int .i64 a, .int .i64 s] 55 (0, 0))) (hr : RdB w g A n) (hlt : a < n) (hn : n ≤ 1048576) (h0 : 0 ≤ s') (h1 : s' ≤ 2147483646) (hp : P r) :
    Drew g w P (.returned (.int .i64 r)) ((((w.setCell ⟨g, 2, none⟩ (.int .i64 s')).drewN q').setCell ⟨g, 1, none⟩ (.int .i64 ((a : Int) + 1))).drewN q) :=
  ⟨r, rfl, hp, ⟨A, n, c, a + 1, s', block_set (i := 1) (w := (w.setCell ⟨g, 2, none⟩ (.int .i64 s')).drewN q') (block_set (i := 2) hb _) _, hlt, hn, h0, h1,
    (((hr.chg (chg_set w g 2 _) (.inl (Nat.le_refl _))).chg (Chg.drewN _ q' 0 0) (.inr rfl)).chg (chg_set _ g 1 _) (.inl (Nat.le_refl _))).chg (Chg.drewN _ q 0 0) (.inr rfl)⟩, (((chg_set w g 2 _).trans (Chg.drewN _ _ _ _)).trans (chg_set _ g 1 _)).trans (Chg.drewN _ _ _ _)⟩

set_option maxHeartbeats 1600000 in
/-- spec.l01Next -/
theorem l01Next (g : Nat) (m : Int) (w : World) (h : Src w g) (hm : m ≤ 1048576) :
    Calls Tryd.prog 35 #[.pointer (some ⟨g, 0, none⟩), .int .i64 m] w (Drew g w fun r => 0 ≤ r ∧ (1 ≤ m → r < m)) := by
  by_cases h1 : m ≤ 1
  · go_enter Tryd.func35, Tryd.ntmps35
    go_wp2
    go_ret
    exact ⟨0, rfl, ⟨by omega, by omega⟩, h, Chg.refl _ _ _⟩
  · obtain ⟨A, n, c, a, s, hb, ha, hn, hs0, hs1, hr⟩ := h
    have c0 : w.cell? ⟨g, 0, none⟩ = some (.slice A n c) := by rw [cell_of_row w g 0 _ _ _ hb]; rfl
    have c1 : w.cell? ⟨g, 1, none⟩ = some (.int .i64 a) := by rw [cell_of_row w g 1 _ _ _ hb]; rfl
    have c2 : w.cell? ⟨g, 2, none⟩ = some (.int .i64 s) := by rw [cell_of_row w g 2 _ _ _ hb]; rfl
    have f1 : w.frozen? ⟨g, 1, none⟩ = false := by simp [World.frozen?, hb]
    have f2 : w.frozen? ⟨g, 2, none⟩ = false := by simp [World.frozen?, hb]
    have HB := Lib.hid hb
    have HR := Lib.hid hr
    clear hb hr
    by_cases hlt : a < n
    · obtain ⟨b, off, rfl, hne, hc⟩ := HR.out (by omega)
      obtain ⟨x, x0, x1, hx⟩ := hc a hlt
      have hne' : ¬ b = g := by omega
      have hltI : (a : Int) < (n : Int) := by omega
      clear hc hne
      go_enter Tryd.func35, Tryd.ntmps35
      go_wp2
      go_quiet (fail)
      go_wp2
      go_quiet (fail)
      go_wp2
      case _ =>
        go_quiet (fail)
        go_wp2
        go_ret
        exact drew3 HB.out HR.out hlt hn (by omega) (by omega) (modP _ _ (by omega))
      all_goals
        go_ret
        exact drew2 HB.out HR.out ha hlt hn (by omega) (by omega) (modP _ _ (by omega))
    · go_enter Tryd.func35, Tryd.ntmps35
      go_wp2
      go_quiet (fail)
      go_wp2
      go_ret
      exact drew1 HB.out HR.out ha hn (by omega) (by omega) (modP _ _ (by omega))

/-- Bytes that can be read. -/
def Bytes (w : World) (A : Option Addr) (n : Nat) : Prop :=
  0 < n → ∃ b off, A = some ⟨b, off, none⟩ ∧ b < w.heap.size ∧ ∀ j, j < n → ∃ x : Int, 0 ≤ x ∧ x ≤ 255 ∧ w.cell? ⟨b, off + j, none⟩ = some (.int .u8 x)
theorem Bytes.chg {w w' : World} {A : Option Addr} {n hi : Nat} (r : Bytes w A n) (c : Chg w w' w.heap.size hi) : Bytes w' A n := by
  intro hn
  obtain ⟨b, off, e, hb, hc⟩ := r hn
  refine ⟨b, off, e, Nat.lt_of_lt_of_le hb c.size, fun j hj => ?_⟩
  obtain ⟨x, h0, h1, hx⟩ := hc j hj
  exact ⟨x, h0, h1, by rw [World.cell?_of_block (c.block b hb (.inl hb))]; exact hx⟩
theorem Bytes.rd {w w' : World} {A : Option Addr} {n : Nat} (r : Bytes w A n) (c : Below w.heap.size w w') : RdB w' w.heap.size A n := by
  intro hn
  obtain ⟨b, off, e, hb, hc⟩ := r hn
  refine ⟨b, off, e, hb, fun j hj => ?_⟩
  obtain ⟨x, h0, h1, hx⟩ := hc j hj
  exact ⟨x, h0, h1, by rw [World.cell?_of_block (c.block b hb)]; exact hx⟩

/-- A new source. -/
def Made (w : World) (e : Ending) (w' : World) : Prop := e = .returned (.pointer (some ⟨w.heap.size, 0, none⟩)) ∧ Src w' w.heap.size ∧ Below w.heap.size w w'

set_option maxHeartbeats 1600000 in
/-- spec.l01From -/
theorem l01From (A : Option Addr) (n c : Nat) (w : World) (h : Bytes w A n) (hn : n ≤ 1048576) :
    Calls Tryd.prog 17 #[.slice A n c] w (Made w) := by
  have H := Lib.hid h
  clear h
  go_enter Tryd.func17, Tryd.ntmps17
  go_wp2
  go_loopw [4] (fun i wr => ∃ (k : Nat) (s : Int), k ≤ n ∧ i = .int .i64 k ∧ 0 ≤ s ∧ s ≤ 2147483646 ∧ Hid (wr.heap[w.heap.size]? = some (.cells #[.slice A n c, .int .i64 ((0 : Nat) : Int), .int .i64 s] 55 (0, 0))) ∧ Below w.heap.size w wr) (fun i _ => n - (intOf i).toNat)
  case atStart => exact ⟨0, 86421, Nat.zero_le _, rfl, by omega, by omega, heap_alloc_new w _, (Below.refl _ _).alloc (Nat.le_refl _) _⟩
  case round =>
    obtain ⟨k, s, hk, rfl, s0, s1, hb, hbw⟩ := hrel
    have c2 : wr.cell? ⟨w.heap.size, 2, none⟩ = some (.int .i64 s) := by rw [cell_of_row wr w.heap.size 2 _ _ _ hb.out]; rfl
    have f2 : wr.frozen? ⟨w.heap.size, 2, none⟩ = false := by simp [World.frozen?, hb.out]
    by_cases hlt : k < n
    · have hltI : (k : Int) < (n : Int) := by omega
      by_cases h64 : k < 64
      · have h64I : (k : Int) < 64 := by omega
        obtain ⟨b, off, rfl, hbl, hc⟩ := H.out (by omega)
        obtain ⟨x, x0, x1, hx⟩ := hc k hlt
        have hx' : wr.cell? ⟨b, off + k, none⟩ = some (.int .u8 x) := by rw [World.cell?_of_block (hbw.block b hbl)]; exact hx
        clear hc hx
        go_wp2
        go_region
        all_goals
          go_wp2
          go_roundw
          case rel => exact ⟨k + 1, (s * 41 + x) % 2147483647, by omega, by go_num, by omega, by omega, block_set (w := wr) (i := 2) hb.out _, (hbw.setCell (Nat.le_refl _) _).drew⟩
          case measure => simp [intOf]; omega
      · have h64I : ¬ (k : Int) < 64 := by omega
        go_wp2
        go_ret
        exact ⟨rfl, ⟨A, n, c, 0, s, hb.out, Nat.zero_le _, hn, s0, s1, H.out.rd hbw⟩, hbw⟩
    · go_wp2
      go_ret
      exact ⟨rfl, ⟨A, n, c, 0, s, hb.out, Nat.zero_le _, hn, s0, s1, H.out.rd hbw⟩, hbw⟩

/-- A draw made where the source's block is new: below it nothing has turned. -/
theorem below_draw {B g : Nat} {a w w' : World} (h : Below B a w) (c : Chg w w' g (g + 1)) (hB : B ≤ g) (hg : g < w.heap.size) : Below B a w' := Chg.above h c (by omega) (.inl hB)


/-- An integer is drawn; below the heap's end nothing has turned. -/
def DrewI (w : World) (P : Int → Prop) (e : Ending) (w' : World) : Prop := ∃ r : Int, e = .returned (.int .i64 r) ∧ P r ∧ Below w.heap.size w w'


/-- laws.big -/
theorem big (A : Option Addr) (n c : Nat) (w : World) : Calls Tryd.prog 5 #[.slice A n c] w fun e w' => e = .returned (.bool (decide (4096 < n))) ∧ w = w' := by
  by_cases h : 4096 < n
  · have h' : (4096 : Int) < (n : Int) := by omega
    rw [decide_eq_true h]
    go_enter Tryd.func5, Tryd.ntmps5
    go_wp2
    go_ret
    exact ⟨rfl, rfl⟩
  · have h' : ¬ (4096 : Int) < (n : Int) := by omega
    rw [decide_eq_false h]
    go_enter Tryd.func5, Tryd.ntmps5
    go_wp2
    go_ret
    exact ⟨rfl, rfl⟩

/-- What a law says of an argument of bytes, in these words. -/
theorem Bytes.of_arg {w : World} {a : Option Addr} {len cap : Nat} {zs : List Int}
    (h : (a = none ∧ len = 0 ∧ cap = 0 ∧ zs = []) ∨ ∃ x, a = some x ∧ len ≤ cap ∧ cap ≤ maxLen ∧ zs.length = cap ∧ (∀ i, i < zs.length → w.cell? (x.add i) = some (.int .u8 (zs.getD i 0))) ∧ ∀ n ∈ zs, (Lit.int .u8 n).wf = true) :
    Bytes w a len := by
  intro hn
  rcases h with ⟨rfl, rfl, rfl, rfl⟩ | ⟨x, rfl, hl, _, hz, hc, hw⟩
  · omega
  · obtain ⟨b, off, spot⟩ := x
    have h0 := hc 0 (by omega)
    have hspot : spot = none := by simpa [Addr.add] using World.cell?_spot h0
    subst hspot
    have hplain : ∀ j, (⟨b, off, none⟩ : Addr).add j = ⟨b, off + j, none⟩ := fun j => by unfold Addr.add; split <;> simp_all
    refine ⟨b, off, rfl, ?_, fun j hj => ?_⟩
    · have := lt_of_cell h0; rwa [hplain] at this
    · have := hc j (by omega)
      rw [hplain] at this
      have hm : zs.getD j 0 ∈ zs := by
        have hj' : j < zs.length := by omega
        simp only [List.getD, List.getElem?_eq_getElem hj', Option.getD_some]
        exact List.getElem_mem hj'
      have hb := bounds_u8 (hw _ hm)
      exact ⟨zs.getD j 0, by omega, by omega, this⟩
theorem nil_of_arg {w : World} {k : IntKind} {a : Option Addr} {len cap : Nat} {zs : List Int}
    (h : (a = none ∧ len = 0 ∧ cap = 0 ∧ zs = []) ∨ ∃ x, a = some x ∧ len ≤ cap ∧ cap ≤ maxLen ∧ zs.length = cap ∧ (∀ i, i < zs.length → w.cell? (x.add i) = some (.int k (zs.getD i 0))) ∧ ∀ n ∈ zs, (Lit.int k n).wf = true) :
    a = none → cap = 0 := by
  rcases h with ⟨_, _, h, _⟩ | ⟨x, h, _⟩
  · exact fun _ => h
  · intro e; rw [e] at h; cases h

theorem byte_info : (Tryd.prog.info? 5).map (fun i => (i.zero, i.size, i.bytes)) = some (some (.int .u8 0), 1, 1) := by kernel_rfl

/-- The number in a cell. -/
def numAt (w : World) (a : Addr) : Int := match w.cell? a with | some (.int _ x) => x | _ => 0
theorem Bytes.list {w : World} {b off n : Nat} (h : Bytes w (some ⟨b, off, none⟩) n) : ∃ zs : List Int, zs.length = n ∧ ∀ j, j < n → 0 ≤ zs.getD j 0 ∧ zs.getD j 0 ≤ 255 ∧ w.cell? ⟨b, off + j, none⟩ = some (.int .u8 (zs.getD j 0)) := by
  refine ⟨(List.range n).map fun j => numAt w ⟨b, off + j, none⟩, by simp, fun j hj => ?_⟩
  obtain ⟨b', off', e, _, hc⟩ := h (by omega)
  injection e with e
  injection e with e1 e2
  subst e1 e2
  obtain ⟨x, h0, h1, hx⟩ := hc j hj
  have e : ((List.range n).map fun j => numAt w ⟨b, off + j, none⟩).getD j 0 = x := by
    simp [List.getD, hj, numAt, hx]
  rw [e]
  exact ⟨h0, h1, hx⟩
theorem bytes_row {w : World} {base : Nat} {v : Value} {n : Nat} {zs : List Int} (h : w.ownsRow base 5 1 v n (zs.map (Value.int .u8))) (hn : 0 < n) (hz : ∀ j, j < n → 0 ≤ zs.getD j 0 ∧ zs.getD j 0 ≤ 255) :
    ∃ A c, v = .slice A n c ∧ Plain A c ∧ Bytes w A n := by
  rcases h.2 with ⟨_, h0⟩ | ⟨g, cap, cur, hv, hg, hh, _, _, _, ht⟩
  · omega
  · refine ⟨_, cap, hv, Plain.at_ _ _ _, fun _ => ⟨g, 0, rfl, lt_of_block hh, fun j hj => ⟨zs.getD j 0, (hz j hj).1, (hz j hj).2, ?_⟩⟩⟩
    have hl : zs.length = n := by have := h.1; simpa using this
    have e1 : (zs.map (Value.int .u8))[j]? = some (.int .u8 (zs.getD j 0)) := by
      simp [List.getD, List.getElem?_eq_getElem (show j < zs.length by omega)]
    rw [← ht, List.getElem?_take, if_pos (by omega)] at e1
    rw [Nat.zero_add, cell_of_row w g j cur _ _ hh]
    simpa using e1

/-- A slice of m bytes in new memory is handed back. -/
def RetB (w : World) (m : Nat) (e : Ending) (w' : World) : Prop := ∃ A c, e = .returned (.slice A m c) ∧ Plain A c ∧ Bytes w' A m ∧ Below w.heap.size w w'

theorem getD_app3 (x y z : Int) (l : List Int) (n : Nat) (hx : 0 ≤ x ∧ x ≤ 255) (hy : 0 ≤ y ∧ y ≤ 255) (hz : 0 ≤ z ∧ z ≤ 255) (h : ∀ j, j < n → 0 ≤ l.getD j 0 ∧ l.getD j 0 ≤ 255) :
    ∀ j, j < 3 + n → 0 ≤ ([x, y, z] ++ l).getD j 0 ∧ ([x, y, z] ++ l).getD j 0 ≤ 255 := by
  intro j hj
  match j, hj with
  | 0, _ => simpa using hx
  | 1, _ => simpa using hy
  | 2, _ => simpa using hz
  | j + 3, hj =>
    have := h j (by omega)
    simpa using this

set_option maxHeartbeats 1000000 in
/-- laws.other -/
theorem other (A : Option Addr) (n c : Nat) (k : Int) (w : World) (h : Bytes w A n) (hA : A = none → c = 0) (hn : n ≤ 1048000) (k0 : 0 ≤ k) (k1 : k ≤ 30) :
    Calls Tryd.prog 12 #[.slice A n c, .int .u8 k] w (RetB w (3 + n)) := by
  obtain ⟨i0, hi0, hz0, hz1, hz2⟩ := info_parts byte_info
  have hown : (w.alloc (.cells #[.int .u8 k, .int .u8 (k + 7), .int .u8 (3 * k)] 5)).ownsRow w.heap.size 5 1 (.slice (some ⟨w.heap.size, 0, none⟩) 3 3) 3 ([k, k + 7, 3 * k].map (Value.int .u8)) :=
    ⟨by simp, .inr ⟨w.heap.size, 3, _, rfl, Nat.le_refl _, heap_alloc_new w _, Nat.le_refl _, by unfold maxLen; omega, rfl, rfl⟩⟩
  have HO := Lib.hid hown
  have hb0 : Below w.heap.size w (w.alloc (.cells #[.int .u8 k, .int .u8 (k + 7), .int .u8 (3 * k)] 5)) := (Below.refl _ _).alloc (Nat.le_refl _) _
  clear hown
  rcases A with _ | ad
  · obtain rfl := hA rfl
    obtain rfl : n = 0 := by
      rcases Nat.eq_zero_or_pos n with e | e
      · exact e
      · obtain ⟨b, off, e', _⟩ := h e; cases e'
    go_enter Tryd.func12, Tryd.ntmps12
    go_wp2_with (at_builtin; refine wpList_append_own_none rfl _ _ 22 rfl w.heap.size 5 i0 1 Tryd.underlying22 hi0 _ 3 _ rfl HO.out rfl ?_)
    go_ret
    obtain ⟨A', c', e, hp, hB⟩ := bytes_row HO.out (by omega) (getD_app3 k (k + 7) (3 * k) [] 0 (by omega) (by omega) (by omega) (fun j hj => by omega))
    injection e with e1 e2 e3
    subst e1 e3
    exact ⟨_, _, rfl, hp, hB, hb0⟩
  · obtain ⟨zs, hl, hz⟩ : ∃ zs : List Int, zs.length = n ∧ ∀ j, j < n → 0 ≤ zs.getD j 0 ∧ zs.getD j 0 ≤ 255 ∧ w.cell? (ad.add j) = some (.int .u8 (zs.getD j 0)) := by
      rcases Nat.eq_zero_or_pos n with e | e
      · exact ⟨[], e.symm, fun j hj => by omega⟩
      · obtain ⟨b, off, e', _⟩ := h e
        injection e' with e'
        subst e'
        obtain ⟨zs, hl, hz⟩ := h.list
        refine ⟨zs, hl, fun j hj => ?_⟩
        have hplain : (⟨b, off, none⟩ : Addr).add j = ⟨b, off + j, none⟩ := by unfold Addr.add; split <;> simp_all
        rw [hplain]
        exact hz j hj
    have hnews : Hid (∀ j u, (zs.map (Value.int .u8))[j]? = some u → (w.alloc (.cells #[.int .u8 k, .int .u8 (k + 7), .int .u8 (3 * k)] 5)).cell? (ad.add j) = some u) := by
      intro j u hj
      have hj' : j < zs.length := by
        rcases Nat.lt_or_ge j zs.length with e | e
        · exact e
        · rw [List.getElem?_eq_none (by simpa using e)] at hj; cases hj
      have hc := (hz j (by omega)).2.2
      rw [World.cell?_of_block (Below.heap_alloc w _ _ (lt_of_cell hc)), hc]
      simp [List.getElem?_eq_getElem hj'] at hj
      rw [← hj]
      simp [List.getD, List.getElem?_eq_getElem hj']
    have h1 : Hid (∀ u ∈ zs.map (Value.int .u8), u.oneCell' = true) := by
      intro u hu
      obtain ⟨q, _, rfl⟩ := List.mem_map.1 hu
      rfl
    have hlen : (zs.map (Value.int .u8)).length = n * 1 := by simpa using hl
    have HLn := Lib.hid hlen
    have HZ := Lib.hid hz
    clear hlen hz hl h
    go_enter Tryd.func12, Tryd.ntmps12
    go_wp2_with (at_builtin; refine wpList_append_own _ rfl _ _ 22 rfl w.heap.size 5 i0 (.int .u8 0) 1 1 Tryd.underlying22 hi0 hz0 hz1 hz2 rfl (by decide) _ 3 _ rfl HO.out ad n c (zs.map (Value.int .u8)) rfl HLn.out hnews.out h1.out (by unfold maxLen; omega) (by omega) (by simp) ?_; intro v' w1 ho1 hg1 _)
    rw [← List.map_append] at ho1
    obtain ⟨A', c', rfl, hp, hB⟩ := bytes_row ho1 (by omega) (getD_app3 k (k + 7) (3 * k) zs n (by omega) (by omega) (by omega) (fun j hj => ⟨(HZ.out j hj).1, (HZ.out j hj).2.1⟩))
    go_ret
    exact ⟨A', c', rfl, hp, hB, hb0.grown hg1 (by simp) (fun q hq => by injection (show some w.heap.size = some q from hq) with e; omega)⟩

end Go.Proofs.YtgoaikamolcffaaDoor.Lib1
