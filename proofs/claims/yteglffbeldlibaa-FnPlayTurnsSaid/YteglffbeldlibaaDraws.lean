/- Contracts of the draws of chapter 1: the source of numbers, the numbers it hands out, a card, a card's text. What is drawn is left open but for its range. The contract of the draw of a card's text, and the law FnCards. Contracts of the draws of hands of chapter 1: shuffled cards, a sorted list, a hand, a list that may be none. What is drawn is left open but for its length. Contracts of the draw of a list that may be no hand, and of DrawHandWith. -/
import Derived.Test.YteglffbeldlibaaBase1
import Derived.Laws.AppendOwnNone
import Derived.Lib.SlBytesConst
import Derived.WalkSpells
import Derived.Deep.RegionWith
import Derived.Deep.DeepFit
import Derived.Test.YteglffbeldlibaaBase2
namespace Go.Proofs.Yteglffbeldlibaa.Lib1

section
open Go.RowKit
set_option maxRecDepth 100000

/-- A slice of n bytes, in a block below g. -/
def RdB (w : World) (g : Nat) (A : Option Addr) (n : Nat) : Prop :=
  0 < n → ∃ b off, A = some ⟨b, off, none⟩ ∧ b < g ∧ ∀ j, j < n → ∃ x : Int, 0 ≤ x ∧ x ≤ 255 ∧ w.cell? ⟨b, off + j, none⟩ = some (.int .u8 x)
theorem RdB.chg {w w' : World} {g : Nat} {A : Option Addr} {n lo hi : Nat} (r : RdB w g A n) (c : Chg w w' lo hi) (h : g ≤ lo ∨ hi = 0) : RdB w' g A n := by
  intro hn
  obtain ⟨b, off, e, hb, hc⟩ := r hn
  refine ⟨b, off, e, hb, fun j hj => ?_⟩
  obtain ⟨x, h0, h1, hx⟩ := hc j hj
  exact ⟨x, h0, h1, by rw [World.cell?_of_block (c.block b (lt_of_cell hx) (by omega))]; exact hx⟩

/-- A source of numbers in block g. -/
def Src (w : World) (g : Nat) : Prop :=
  ∃ (A : Option Addr) (n c a : Nat) (s : Int), w.heap[g]? = some (.cells #[.slice A n c, .int .i64 a, .int .i64 s] 133 (0, 0)) ∧ a ≤ n ∧ n ≤ 1048576 ∧ 0 ≤ s ∧ s ≤ 2147483646 ∧ RdB w g A n
theorem Src.chg {w w' : World} {g lo hi : Nat} (h : Src w g) (c : Chg w w' lo hi) (hd : g < lo ∨ hi = 0) : Src w' g := by
  obtain ⟨A, n, cc, a, s, hb, h1, h2, h3, h4, h5⟩ := h
  exact ⟨A, n, cc, a, s, (c.block g (lt_of_block hb) (by omega)).trans hb, h1, h2, h3, h4, h5.chg c (by omega)⟩
theorem Src.still {w w' : World} {g : Nat} (h : Src w g) (c : Chg w w' 0 0) : Src w' g := by
  obtain ⟨A, n, cc, a, s, hb, h1, h2, h3, h4, h5⟩ := h
  exact ⟨A, n, cc, a, s, (c.block g (lt_of_block hb) (.inr (Nat.zero_le _))).trans hb, h1, h2, h3, h4, h5.chg c (.inr rfl)⟩
theorem Src.lt {w : World} {g : Nat} (h : Src w g) : g < w.heap.size := by
  obtain ⟨A, n, cc, a, s, hb, _⟩ := h
  exact lt_of_block hb

/-- What a draw from the source in block g leaves. -/
def Drew (g : Nat) (w : World) (P : Int → Prop) (e : Ending) (w' : World) : Prop := ∃ r : Int, e = .returned (.int .i64 r) ∧ P r ∧ Src w' g ∧ Chg w w' g (g + 1)

theorem block_set {w : World} {g i : Nat} {cs : Array Value} {t : TypeId} (h : w.heap[g]? = some (.cells cs t (0, 0))) (v : Value) : (w.setCell ⟨g, i, none⟩ v).heap[g]? = some (.cells (cs.setIfInBounds i v) t (0, 0)) := by
  simp [World.setCell, Array.getElem?_modify, h]

theorem modP (y m : Int) (h : 1 < m) : 0 ≤ y % m ∧ (1 ≤ m → y % m < m) := ⟨Int.emod_nonneg _ (by omega), fun _ => Int.emod_lt_of_pos _ (by omega)⟩
theorem chg_set (w : World) (g i : Nat) (v : Value) : Chg w (w.setCell ⟨g, i, none⟩ v) g (g + 1) := (Chg.refl w g (g + 1)).store (Nat.le_refl _) (Nat.lt_succ_self _) v
theorem drew1 {g : Nat} {w : World} {A : Option Addr} {n c a q : Nat} {s s' r : Int} {P : Int → Prop}
    (hb : w.heap[g]? = some (.cells #[.slice A n c, .int .i64 a, .int .i64 s] 133 (0, 0))) (hr : RdB w g A n) (ha : a ≤ n) (hn : n ≤ 1048576) (h0 : 0 ≤ s') (h1 : s' ≤ 2147483646) (hp : P r) :
    Drew g w P (.returned (.int .i64 r)) ((w.setCell ⟨g, 2, none⟩ (.int .i64 s')).drewN q) :=
  ⟨r, rfl, hp, ⟨A, n, c, a, s', block_set (i := 2) hb _, ha, hn, h0, h1, (hr.chg (chg_set w g 2 _) (.inl (Nat.le_refl _))).chg (Chg.drewN _ q 0 0) (.inr rfl)⟩, (chg_set w g 2 _).trans (Chg.drewN _ _ _ _)⟩
theorem drew2 {g : Nat} {w : World} {A : Option Addr} {n c a q : Nat} {s s' r : Int} {P : Int → Prop}
    (hb : w.heap[g]? = some (.cells #[.slice A n c, .int .i64 a, .int .i64 s] 133 (0, 0))) (hr : RdB w g A n) (_ha : a ≤ n) (hlt : a < n) (hn : n ≤ 1048576) (h0 : 0 ≤ s') (h1 : s' ≤ 2147483646) (hp : P r) :
    Drew g w P (.returned (.int .i64 r)) (((w.setCell ⟨g, 2, none⟩ (.int .i64 s')).setCell ⟨g, 1, none⟩ (.int .i64 ((a : Int) + 1))).drewN q) :=
  ⟨r, rfl, hp, ⟨A, n, c, a + 1, s', block_set (i := 1) (block_set (i := 2) hb _) _, hlt, hn, h0, h1, ((hr.chg (chg_set w g 2 _) (.inl (Nat.le_refl _))).chg (chg_set _ g 1 _) (.inl (Nat.le_refl _))).chg (Chg.drewN _ q 0 0) (.inr rfl)⟩, ((chg_set w g 2 _).trans (chg_set _ g 1 _)).trans (Chg.drewN _ _ _ _)⟩

theorem drew3 {g : Nat} {w : World} {A : Option Addr} {n c a q q' : Nat} {s s' r : Int} {P : Int → Prop}
    (hb : w.heap[g]? = some (.cells #[.slice A n c, .int .i64 a, .int .i64 s] 133 (0, 0))) (hr : RdB w g A n) (hlt : a < n) (hn : n ≤ 1048576) (h0 : 0 ≤ s') (h1 : s' ≤ 2147483646) (hp : P r) :
    Drew g w P (.returned (.int .i64 r)) ((((w.setCell ⟨g, 2, none⟩ (.int .i64 s')).drewN q').setCell ⟨g, 1, none⟩ (.int .i64 ((a : Int) + 1))).drewN q) :=
  ⟨r, rfl, hp, ⟨A, n, c, a + 1, s', block_set (i := 1) (w := (w.setCell ⟨g, 2, none⟩ (.int .i64 s')).drewN q') (block_set (i := 2) hb _) _, hlt, hn, h0, h1,
    (((hr.chg (chg_set w g 2 _) (.inl (Nat.le_refl _))).chg (Chg.drewN _ q' 0 0) (.inr rfl)).chg (chg_set _ g 1 _) (.inl (Nat.le_refl _))).chg (Chg.drewN _ q 0 0) (.inr rfl)⟩, (((chg_set w g 2 _).trans (Chg.drewN _ _ _ _)).trans (chg_set _ g 1 _)).trans (Chg.drewN _ _ _ _)⟩

set_option maxHeartbeats 1600000 in
/-- spec.l01Next -/
theorem l01Next (g : Nat) (m : Int) (w : World) (h : Src w g) (hm : m ≤ 1048576) :
    Calls Try.prog 64 #[.pointer (some ⟨g, 0, none⟩), .int .i64 m] w (Drew g w fun r => 0 ≤ r ∧ (1 ≤ m → r < m)) := by
  by_cases h1 : m ≤ 1
  · go_enter Try.func64, Try.ntmps64
    go_wp2
    go_ret
    exact ⟨0, rfl, ⟨by omega, by omega⟩, h, Chg.refl _ _ _⟩
  · obtain ⟨A, n, c, a, s, hb, ha, hn, hs0, hs1, hr⟩ := h
    have c0 : w.cell? ⟨g, 0, none⟩ = some (.slice A n c) := by rw [cell_of_row w g 0 _ _ _ hb]; rfl
    have c1 : w.cell? ⟨g, 1, none⟩ = some (.int .i64 a) := by rw [cell_of_row w g 1 _ _ _ hb]; rfl
    have c2 : w.cell? ⟨g, 2, none⟩ = some (.int .i64 s) := by rw [cell_of_row w g 2 _ _ _ hb]; rfl
    have f1 : w.frozen? ⟨g, 1, none⟩ = false := by simp [World.frozen?, hb]
    have f2 : w.frozen? ⟨g, 2, none⟩ = false := by simp [World.frozen?, hb]
    have HB := Lib.hid hb
    have HR := Lib.hid hr
    clear hb hr
    by_cases hlt : a < n
    · obtain ⟨b, off, rfl, hne, hc⟩ := HR.out (by omega)
      obtain ⟨x, x0, x1, hx⟩ := hc a hlt
      have hne' : ¬ b = g := by omega
      have hltI : (a : Int) < (n : Int) := by omega
      clear hc hne
      go_enter Try.func64, Try.ntmps64
      go_wp2
      go_quiet (fail)
      go_wp2
      go_quiet (fail)
      go_wp2
      case _ =>
        go_quiet (fail)
        go_wp2
        go_ret
        exact drew3 HB.out HR.out hlt hn (by omega) (by omega) (modP _ _ (by omega))
      all_goals
        go_ret
        exact drew2 HB.out HR.out ha hlt hn (by omega) (by omega) (modP _ _ (by omega))
    · go_enter Try.func64, Try.ntmps64
      go_wp2
      go_quiet (fail)
      go_wp2
      go_ret
      exact drew1 HB.out HR.out ha hn (by omega) (by omega) (modP _ _ (by omega))

/-- Bytes that can be read. -/
def Bytes (w : World) (A : Option Addr) (n : Nat) : Prop :=
  0 < n → ∃ b off, A = some ⟨b, off, none⟩ ∧ b < w.heap.size ∧ ∀ j, j < n → ∃ x : Int, 0 ≤ x ∧ x ≤ 255 ∧ w.cell? ⟨b, off + j, none⟩ = some (.int .u8 x)
theorem Bytes.chg {w w' : World} {A : Option Addr} {n hi : Nat} (r : Bytes w A n) (c : Chg w w' w.heap.size hi) : Bytes w' A n := by
  intro hn
  obtain ⟨b, off, e, hb, hc⟩ := r hn
  refine ⟨b, off, e, Nat.lt_of_lt_of_le hb c.size, fun j hj => ?_⟩
  obtain ⟨x, h0, h1, hx⟩ := hc j hj
  exact ⟨x, h0, h1, by rw [World.cell?_of_block (c.block b hb (.inl hb))]; exact hx⟩
theorem Bytes.rd {w w' : World} {A : Option Addr} {n : Nat} (r : Bytes w A n) (c : Below w.heap.size w w') : RdB w' w.heap.size A n := by
  intro hn
  obtain ⟨b, off, e, hb, hc⟩ := r hn
  refine ⟨b, off, e, hb, fun j hj => ?_⟩
  obtain ⟨x, h0, h1, hx⟩ := hc j hj
  exact ⟨x, h0, h1, by rw [World.cell?_of_block (c.block b hb)]; exact hx⟩

/-- A new source. -/
def Made (w : World) (e : Ending) (w' : World) : Prop := e = .returned (.pointer (some ⟨w.heap.size, 0, none⟩)) ∧ Src w' w.heap.size ∧ Below w.heap.size w w'

set_option maxHeartbeats 1600000 in
/-- spec.l01From -/
theorem l01From (A : Option Addr) (n c : Nat) (w : World) (h : Bytes w A n) (hn : n ≤ 1048576) :
    Calls Try.prog 62 #[.slice A n c] w (Made w) := by
  have H := Lib.hid h
  clear h
  go_enter Try.func62, Try.ntmps62
  go_wp2
  go_loopw [4] (fun i wr => ∃ (k : Nat) (s : Int), k ≤ n ∧ i = .int .i64 k ∧ 0 ≤ s ∧ s ≤ 2147483646 ∧ Hid (wr.heap[w.heap.size]? = some (.cells #[.slice A n c, .int .i64 ((0 : Nat) : Int), .int .i64 s] 133 (0, 0))) ∧ Below w.heap.size w wr) (fun i _ => n - (intOf i).toNat)
  case atStart => exact ⟨0, 86421, Nat.zero_le _, rfl, by omega, by omega, heap_alloc_new w _, (Below.refl _ _).alloc (Nat.le_refl _) _⟩
  case round =>
    obtain ⟨k, s, hk, rfl, s0, s1, hb, hbw⟩ := hrel
    have c2 : wr.cell? ⟨w.heap.size, 2, none⟩ = some (.int .i64 s) := by rw [cell_of_row wr w.heap.size 2 _ _ _ hb.out]; rfl
    have f2 : wr.frozen? ⟨w.heap.size, 2, none⟩ = false := by simp [World.frozen?, hb.out]
    by_cases hlt : k < n
    · have hltI : (k : Int) < (n : Int) := by omega
      by_cases h64 : k < 64
      · have h64I : (k : Int) < 64 := by omega
        obtain ⟨b, off, rfl, hbl, hc⟩ := H.out (by omega)
        obtain ⟨x, x0, x1, hx⟩ := hc k hlt
        have hx' : wr.cell? ⟨b, off + k, none⟩ = some (.int .u8 x) := by rw [World.cell?_of_block (hbw.block b hbl)]; exact hx
        clear hc hx
        go_wp2
        go_region
        all_goals
          go_wp2
          go_roundw
          case rel => exact ⟨k + 1, (s * 41 + x) % 2147483647, by omega, by go_num, by omega, by omega, block_set (w := wr) (i := 2) hb.out _, (hbw.setCell (Nat.le_refl _) _).drew⟩
          case measure => simp [intOf]; omega
      · have h64I : ¬ (k : Int) < 64 := by omega
        go_wp2
        go_ret
        exact ⟨rfl, ⟨A, n, c, 0, s, hb.out, Nat.zero_le _, hn, s0, s1, H.out.rd hbw⟩, hbw⟩
    · go_wp2
      go_ret
      exact ⟨rfl, ⟨A, n, c, 0, s, hb.out, Nat.zero_le _, hn, s0, s1, H.out.rd hbw⟩, hbw⟩

/-- A draw made where the source's block is new: below it nothing has turned. -/
theorem below_draw {B g : Nat} {a w w' : World} (h : Below B a w) (c : Chg w w' g (g + 1)) (hB : B ≤ g) (hg : g < w.heap.size) : Below B a w' := Chg.above h c (by omega) (.inl hB)

set_option maxHeartbeats 1600000 in
/-- spec.l01DrawCard -/
theorem l01DrawCard (g : Nat) (w : World) (h : Src w g) :
    Calls Try.prog 65 #[.pointer (some ⟨g, 0, none⟩)] w (Drew g w fun r => -1 ≤ r ∧ r ≤ 52) := by
  go_enter Try.func65, Try.ntmps65
  go_wp2_with fail
  refine (l01Next g 16 _ h (by omega)).mono ?_
  rintro e w1 ⟨r1, rfl, ⟨r10, r11⟩, s1, c1⟩
  by_cases h0 : r1 = 0
  · have ht : (r1 == 0) = true := by simpa using h0
    clear h0
    go_wp2_with fail
    refine (l01Next g 4 _ (s1.still (Chg.of_alloc _ _ _ _)) (by omega)).mono ?_
    rintro e w2 ⟨r2, rfl, ⟨r20, r21⟩, s2, c2⟩
    have r22 := r21 (by omega)
    have hcell : ∃ z : Int, -1 ≤ z ∧ z ≤ 52 ∧ w2.cell? ⟨w1.heap.size, r2.toNat, none⟩ = some (.int .i64 z) := by
      have hg := s1.lt
      have hb := c2.block w1.heap.size (by simp) (by omega)
      have hr : r2 = 0 ∨ r2 = 1 ∨ r2 = 2 ∨ r2 = 3 := by omega
      rw [World.cell?_of_block (w := w1.alloc (.cells #[.int .i64 (-1), .int .i64 52, .int .i64 51, .int .i64 0] 2)) hb, World.cell?_alloc_mark]
      rcases hr with rfl | rfl | rfl | rfl
      · exact ⟨-1, by omega, by omega, rfl⟩
      · exact ⟨52, by omega, by omega, rfl⟩
      · exact ⟨51, by omega, by omega, rfl⟩
      · exact ⟨0, by omega, by omega, rfl⟩
    obtain ⟨z, z0, z1, hz⟩ := hcell
    go_wp2_with fail
    go_ret
    exact ⟨z, rfl, ⟨z0, z1⟩, s2, (c1.trans (Chg.of_alloc _ _ _ _)).trans c2⟩
  · have ht : (r1 == 0) = false := by simpa using h0
    clear h0
    go_wp2_with fail
    refine (l01Next g 52 _ s1 (by omega)).mono ?_
    rintro e w2 ⟨r2, rfl, ⟨r20, r21⟩, s2, c2⟩
    have r22 := r21 (by omega)
    go_wp2_with fail
    go_ret
    exact ⟨r2, rfl, ⟨by omega, by omega⟩, s2, c1.trans c2⟩

/-- An integer is drawn; below the heap's end nothing has turned. -/
def DrewI (w : World) (P : Int → Prop) (e : Ending) (w' : World) : Prop := ∃ r : Int, e = .returned (.int .i64 r) ∧ P r ∧ Below w.heap.size w w'


/-- laws.big -/
theorem big (A : Option Addr) (n c : Nat) (w : World) : Calls Try.prog 17 #[.slice A n c] w fun e w' => e = .returned (.bool (decide (4096 < n))) ∧ w = w' := by
  by_cases h : 4096 < n
  · have h' : (4096 : Int) < (n : Int) := by omega
    rw [decide_eq_true h]
    go_enter Try.func17, Try.ntmps17
    go_wp2
    go_ret
    exact ⟨rfl, rfl⟩
  · have h' : ¬ (4096 : Int) < (n : Int) := by omega
    rw [decide_eq_false h]
    go_enter Try.func17, Try.ntmps17
    go_wp2
    go_ret
    exact ⟨rfl, rfl⟩

/-- What a law says of an argument of bytes, in these words. -/
theorem Bytes.of_arg {w : World} {a : Option Addr} {len cap : Nat} {zs : List Int}
    (h : (a = none ∧ len = 0 ∧ cap = 0 ∧ zs = []) ∨ ∃ x, a = some x ∧ len ≤ cap ∧ cap ≤ maxLen ∧ zs.length = cap ∧ (∀ i, i < zs.length → w.cell? (x.add i) = some (.int .u8 (zs.getD i 0))) ∧ ∀ n ∈ zs, (Lit.int .u8 n).wf = true) :
    Bytes w a len := by
  intro hn
  rcases h with ⟨rfl, rfl, rfl, rfl⟩ | ⟨x, rfl, hl, _, hz, hc, hw⟩
  · omega
  · obtain ⟨b, off, spot⟩ := x
    have h0 := hc 0 (by omega)
    have hspot : spot = none := by simpa [Addr.add] using World.cell?_spot h0
    subst hspot
    have hplain : ∀ j, (⟨b, off, none⟩ : Addr).add j = ⟨b, off + j, none⟩ := fun j => by unfold Addr.add; split <;> simp_all
    refine ⟨b, off, rfl, ?_, fun j hj => ?_⟩
    · have := lt_of_cell h0; rwa [hplain] at this
    · have := hc j (by omega)
      rw [hplain] at this
      have hm : zs.getD j 0 ∈ zs := by
        have hj' : j < zs.length := by omega
        simp only [List.getD, List.getElem?_eq_getElem hj', Option.getD_some]
        exact List.getElem_mem hj'
      have hb := bounds_u8 (hw _ hm)
      exact ⟨zs.getD j 0, by omega, by omega, this⟩
theorem nil_of_arg {w : World} {k : IntKind} {a : Option Addr} {len cap : Nat} {zs : List Int}
    (h : (a = none ∧ len = 0 ∧ cap = 0 ∧ zs = []) ∨ ∃ x, a = some x ∧ len ≤ cap ∧ cap ≤ maxLen ∧ zs.length = cap ∧ (∀ i, i < zs.length → w.cell? (x.add i) = some (.int k (zs.getD i 0))) ∧ ∀ n ∈ zs, (Lit.int k n).wf = true) :
    a = none → cap = 0 := by
  rcases h with ⟨_, _, h, _⟩ | ⟨x, h, _⟩
  · exact fun _ => h
  · intro e; rw [e] at h; cases h

theorem byte_info : (Try.prog.info? 5).map (fun i => (i.zero, i.size, i.bytes)) = some (some (.int .u8 0), 1, 1) := by kernel_rfl

/-- The number in a cell. -/
def numAt (w : World) (a : Addr) : Int := match w.cell? a with | some (.int _ x) => x | _ => 0
theorem Bytes.list {w : World} {b off n : Nat} (h : Bytes w (some ⟨b, off, none⟩) n) : ∃ zs : List Int, zs.length = n ∧ ∀ j, j < n → 0 ≤ zs.getD j 0 ∧ zs.getD j 0 ≤ 255 ∧ w.cell? ⟨b, off + j, none⟩ = some (.int .u8 (zs.getD j 0)) := by
  refine ⟨(List.range n).map fun j => numAt w ⟨b, off + j, none⟩, by simp, fun j hj => ?_⟩
  obtain ⟨b', off', e, _, hc⟩ := h (by omega)
  injection e with e
  injection e with e1 e2
  subst e1 e2
  obtain ⟨x, h0, h1, hx⟩ := hc j hj
  have e : ((List.range n).map fun j => numAt w ⟨b, off + j, none⟩).getD j 0 = x := by
    simp [List.getD, hj, numAt, hx]
  rw [e]
  exact ⟨h0, h1, hx⟩
theorem bytes_row {w : World} {base : Nat} {v : Value} {n : Nat} {zs : List Int} (h : w.ownsRow base 5 1 v n (zs.map (Value.int .u8))) (hn : 0 < n) (hz : ∀ j, j < n → 0 ≤ zs.getD j 0 ∧ zs.getD j 0 ≤ 255) :
    ∃ A c, v = .slice A n c ∧ Plain A c ∧ Bytes w A n := by
  rcases h.2 with ⟨_, h0⟩ | ⟨g, cap, cur, hv, hg, hh, _, _, _, ht⟩
  · omega
  · refine ⟨_, cap, hv, Plain.at_ _ _ _, fun _ => ⟨g, 0, rfl, lt_of_block hh, fun j hj => ⟨zs.getD j 0, (hz j hj).1, (hz j hj).2, ?_⟩⟩⟩
    have hl : zs.length = n := by have := h.1; simpa using this
    have e1 : (zs.map (Value.int .u8))[j]? = some (.int .u8 (zs.getD j 0)) := by
      simp [List.getD, List.getElem?_eq_getElem (show j < zs.length by omega)]
    rw [← ht, List.getElem?_take, if_pos (by omega)] at e1
    rw [Nat.zero_add, cell_of_row w g j cur _ _ hh]
    simpa using e1

/-- A slice of m bytes in new memory is handed back. -/
def RetB (w : World) (m : Nat) (e : Ending) (w' : World) : Prop := ∃ A c, e = .returned (.slice A m c) ∧ Plain A c ∧ Bytes w' A m ∧ Below w.heap.size w w'

theorem getD_app3 (x y z : Int) (l : List Int) (n : Nat) (hx : 0 ≤ x ∧ x ≤ 255) (hy : 0 ≤ y ∧ y ≤ 255) (hz : 0 ≤ z ∧ z ≤ 255) (h : ∀ j, j < n → 0 ≤ l.getD j 0 ∧ l.getD j 0 ≤ 255) :
    ∀ j, j < 3 + n → 0 ≤ ([x, y, z] ++ l).getD j 0 ∧ ([x, y, z] ++ l).getD j 0 ≤ 255 := by
  intro j hj
  match j, hj with
  | 0, _ => simpa using hx
  | 1, _ => simpa using hy
  | 2, _ => simpa using hz
  | j + 3, hj =>
    have := h j (by omega)
    simpa using this


end

section
open Go.RowKit
set_option maxRecDepth 100000

/-- A string is handed back. -/
def RetStr (w : World) (e : Ending) (w' : World) : Prop := ∃ s : ByteArray, e = .returned (.string s) ∧ s.size ≤ 1048576 ∧ Below w.heap.size w w'

theorem textV_size (n : Int) : (textV n).size = 2 := by unfold textV; rw [strOfNums_size]; rfl

theorem conv_const (w : World) (C : Array Value) (n c : Nat) :
    (convert 22 22 (.slice (some ⟨w.heap.size, 0, none⟩) n c)).run Try.prog (w.alloc (.cells C 5)).drew = .ok (.slice (some ⟨w.heap.size, 0, none⟩) n c) (w.alloc (.cells C 5 (C.size, C.size + 1))).drew :=
  Lib.run_convert_bytes_const (P := Try.prog) w.drew 22 5 C n c Try.underlying22 Try.underlying5

theorem conv2p (w : World) (x y : Int) :
    (convert 22 9 (.slice (some ⟨w.heap.size, 0, none⟩) 2 2)).run Try.prog (w.alloc (.cells #[.int .u8 x, .int .u8 y] 5)) = .ok (.string (strOfNums [x, y])) (w.alloc (.cells #[.int .u8 x, .int .u8 y] 5)) := by
  refine run_convert_bytes_arg _ 22 5 Try.underlying22 Try.underlying5 _ 0 2 2 [x, y] rfl ?_ 9 Try.underlying9
  intro i hi
  match i, hi with
  | 0, _ => simp
  | 1, _ => simp

theorem conv2q (w : World) (o : Obj) (x y : Int) :
    (convert 22 9 (.slice (some ⟨w.heap.size + 1, 0, none⟩) 2 2)).run Try.prog ((w.alloc o).alloc (.cells #[.int .u8 x, .int .u8 y] 5)) = .ok (.string (strOfNums [x, y])) ((w.alloc o).alloc (.cells #[.int .u8 x, .int .u8 y] 5)) := by
  have h := conv2p (w.alloc o) x y
  rwa [show (w.alloc o).heap.size = w.heap.size + 1 by simp] at h

/-- The constant's five bytes. -/
def five : Array Value := #[.int .u8 49, .int .u8 116, .int .u8 48, .int .u8 120, .int .u8 97]
theorem five_at (r : Int) (h0 : 0 ≤ r) (h1 : r < 5) : ∃ z : Int, 0 ≤ z ∧ z ≤ 255 ∧ five[r.toNat]? = some (.int .u8 z) := by
  have hr : r = 0 ∨ r = 1 ∨ r = 2 ∨ r = 3 ∨ r = 4 := by omega
  rcases hr with rfl | rfl | rfl | rfl | rfl
  · exact ⟨49, by omega, by omega, rfl⟩
  · exact ⟨116, by omega, by omega, rfl⟩
  · exact ⟨48, by omega, by omega, rfl⟩
  · exact ⟨120, by omega, by omega, rfl⟩
  · exact ⟨97, by omega, by omega, rfl⟩

/-- A draw made where the five bytes lie in a new block, marked or not. -/
def Next5 (w : World) (g : Nat) (fr : Nat × Nat) (e : Ending) (w' : World) : Prop :=
  ∃ r z : Int, e = .returned (.int .i64 r) ∧ 0 ≤ r ∧ r < 5 ∧ 0 ≤ z ∧ z ≤ 255 ∧ w'.cell? ⟨w.heap.size, r.toNat, none⟩ = some (.int .u8 z) ∧ Src w' g ∧ Chg w w' g (g + 1) ∧ w'.heap[w.heap.size]? = some (.cells five 5 fr) ∧ w.heap.size < w'.heap.size
theorem next_const {w : World} {g : Nat} (h : Src w g) (fr : Nat × Nat) :
    Calls Try.prog 64 #[.pointer (some ⟨g, 0, none⟩), .int .i64 5] (w.alloc (.cells five 5 fr)).drew (Next5 w g fr) := by
  have hc : Chg w (w.alloc (.cells five 5 fr)).drew 0 0 := Chg.alloc_drew _ _ _ _
  refine (l01Next g 5 _ (h.still hc) (by omega)).mono ?_
  rintro e w' ⟨r, rfl, ⟨r0, r1⟩, s, c⟩
  have r2 := r1 (by omega)
  have hg := h.lt
  have hsz : w.heap.size < (w.alloc (.cells five 5 fr)).drew.heap.size := by show _ < (w.heap.push _).size; simp
  have hb := c.block w.heap.size hsz (by omega)
  have hbk : w'.heap[w.heap.size]? = some (.cells five 5 fr) := hb.trans (heap_alloc_new w _)
  obtain ⟨z, z0, z1, hz⟩ := five_at r r0 r2
  exact ⟨r, z, rfl, r0, r2, z0, z1, by rw [cell_of_row w' _ _ _ _ _ hbk]; exact hz, s, (hc.any _ _).trans c, hbk, Nat.lt_of_lt_of_le hsz c.size⟩
/-- The mark that is laid behind the five bytes, in whatever world. -/
theorem mark_const {w : World} {g b : Nat} (hb : w.heap[b]? = some (.cells five 5 (0, 0))) (h : Src w g) (hne : b ≠ g) :
    ∃ w', (convert 22 22 (.slice (some ⟨b, 0, none⟩) 5 5)).run Try.prog w = .ok (.slice (some ⟨b, 0, none⟩) 5 5) w' ∧ Src w' g ∧ Chg w w' b (b + 1) ∧ (∀ a, w'.cell? a = w.cell? a) ∧ w'.heap.size = w.heap.size := by
  have hlt := lt_of_block hb
  have hsh : w.shape? b = some (5, five.size) := by
    unfold World.shape?
    rw [hb]
  have hcg : Chg w (w.freeze ⟨b, five.size, none⟩ 1) b (b + 1) := by
    unfold World.freeze
    rw [if_neg (by decide)]
    exact ⟨rfl, rfl, rfl, by simp, fun k hk ho => by simp only [Array.getElem?_modify]; rw [if_neg (by omega)]⟩
  have hcells : ∀ a, (w.freeze ⟨b, five.size, none⟩ 1).cell? a = w.cell? a := by
    intro a
    unfold World.freeze
    rw [if_neg (by decide)]
    unfold World.cell?
    simp only [Array.getElem?_modify]
    by_cases e : b = a.block
    · rw [if_pos e, ← e, hb]; rfl
    · rw [if_neg e]
  refine ⟨w.freeze ⟨b, five.size, none⟩ 1, ?_, ?_, hcg, ?_, ?_⟩
  · simp [convert, run_underlying Try.underlying22, run_underlying Try.underlying5, markStringish, hsh]
  · obtain ⟨A, n, c, a, s, h1, h2, h3, h4, h5, h6⟩ := h
    refine ⟨A, n, c, a, s, (hcg.block g (lt_of_block h1) (by omega)).trans h1, h2, h3, h4, h5, fun hn => ?_⟩
    obtain ⟨b', off, e, hb', hc⟩ := h6 hn
    exact ⟨b', off, e, hb', fun j hj => by rw [hcells]; exact hc j hj⟩
  · exact hcells
  · unfold World.freeze; rw [if_neg (by decide)]; simp


end

section
open Go.RowKit
set_option maxRecDepth 100000

theorem Src.below {w w' : World} {g : Nat} (h : Src w g) (b : Below w.heap.size w w') : Src w' g := h.still (Chg.of_below b 0 0)
theorem Own.set {w : World} {lo hi b n k : Nat} {zs : List Int} (h : Own w lo hi (some ⟨b, 0, none⟩) n zs) (hk : k < n) (z : Int) : Own (w.setCell ⟨b, k, none⟩ (.int .i64 z)) lo hi (some ⟨b, 0, none⟩) n (zs.set k z) := by
  refine h.store hk (by simpa using h.1) (fun j hj => ?_)
  have hl := h.1
  by_cases e : j = k
  · subst e; simp [List.getD, hl, hj]
  · rw [if_neg e]
    simp [List.getD, Ne.symm e]

theorem set_chg (w : World) (b i : Nat) (v : Value) : Chg w (w.setCell ⟨b, i, none⟩ v) b (b + 1) := chg_set w b i v
theorem Src_far {w : World} {g b i : Nat} (h : Src w g) (hb : g < b) (v : Value) : Src (w.setCell ⟨b, i, none⟩ v) g := h.chg (set_chg w b i v) (.inl hb)
/-- A store into a block that is new since w. -/
theorem chg_new {w w' : World} {lo hi b i : Nat} (h : Chg w w' lo hi) (hb : w.heap.size ≤ b) (v : Value) : Chg w (w'.setCell ⟨b, i, none⟩ v) lo hi :=
  ⟨h.os, h.tape, h.output, by simpa [World.setCell] using h.size, fun k hk ho => (Below.heap_setCell w' ⟨b, i, none⟩ v k (by show k ≠ b; omega)).trans (h.block k hk ho)⟩

/-- A list of m numbers is drawn from the source in block g. -/
def DrewL (g m : Nat) (w : World) (e : Ending) (w' : World) : Prop :=
  ∃ A c zs, e = .returned (.slice A m c) ∧ m ≤ c ∧ Own w' w.heap.size w'.heap.size A m zs ∧ Src w' g ∧ Chg w w' g (g + 1)

set_option maxHeartbeats 1600000 in
/-- spec.l01Shuffled -/
theorem l01Shuffled (g : Nat) (w : World) (h : Src w g) :
    Calls Try.prog 168 #[.pointer (some ⟨g, 0, none⟩)] w (DrewL g 52 w) := by
  have hg := h.lt
  go_enter Try.func168, Try.ntmps168
  go_wp2
  go_loopw [3, 4] (fun v i wr => ∃ (k : Nat) (zs : List Int), k ≤ 52 ∧ i = .int .i64 k ∧ Hid (zs.length = k) ∧ OwnV wr w.heap.size v zs ∧ Below w.heap.size w wr) (fun _ i _ => 52 - (intOf i).toNat)
  case atStart => exact ⟨0, [], by omega, rfl, rfl, OwnV.made w (Nat.le_refl _), (Below.refl _ _).alloc (Nat.le_refl _) _⟩
  case round =>
    obtain ⟨k, zs, hk, rfl, hl, ho, hb⟩ := hrel
    by_cases hlt : k < 52
    · have hltI : (k : Int) < 52 := by omega
      have hlen : zs.length ≤ 1048576 := by rw [hl.out]; omega
      have hsize := hb.size
      go_wp2_with (at_builtin; refine wpList_push rfl _ _ rfl w.heap.size _ _ rfl ho (k : Int) rfl hlen hsize ?_; intro v' w1 ho1 hb1)
      have hl1 : Hid ((zs ++ [(k : Int)]).length = k + 1) := by show _ = _; rw [List.length_append, hl.out]; rfl
      have hb2 := hb.trans hb1
      clear ho hb hb1
      go_roundw
      case rel => exact ⟨k + 1, _, by omega, by go_num, hl1, ho1, hb2⟩
      case measure => simp [intOf]; omega
    · have hltI : ¬ (k : Int) < 52 := by omega
      obtain ⟨A, c, rfl, hc, _, hown⟩ := ho.form_at (show zs.length = 52 by rw [hl.out]; omega)
      have hs1 := h.below hb
      have hch := Chg.of_below hb g (g + 1)
      clear ho hl
      generalize hH : wr.heap.size = H at hown
      have HH := Lib.hid hH
      clear hH
      go_wp2
      go_loopw [5] (fun i wr => ∃ (q : Nat) (ys : List Int), q ≤ 51 ∧ i = .int .i64 q ∧ Own wr w.heap.size H A 52 ys ∧ Src wr g ∧ Chg w wr g (g + 1) ∧ Hid (H ≤ wr.heap.size)) (fun i _ => (intOf i).toNat)
      case atStart => exact ⟨51, zs, by omega, rfl, hown, hs1, hch, Nat.le_of_eq HH.out.symm⟩
      case round =>
        obtain ⟨q, ys, hq, rfl, ho2, hs2, hc2, hz2⟩ := hrel
        by_cases hq0 : 0 < q
        · have hq0I : (0 : Int) < (q : Int) := by omega
          have hgH : g + 1 ≤ w.heap.size := hg
          go_wp2_with fail
          refine (l01Next g ((q : Int) + 1) _ hs2 (by omega)).mono ?_
          rintro e w3 ⟨r, rfl, ⟨r0, r1⟩, hs3, hc3⟩
          have r2 := r1 (by omega)
          have ho3 := ho2.chg hc3 (.inr hgH)
          have hch3 := hc2.trans hc3
          have hz3 : Hid (H ≤ w3.heap.size) := Nat.le_trans hz2.out hc3.size
          clear ho2 hc2 hc3 hs2 hz2
          obtain ⟨b, cs, rfl, hb1, hb2, hbk, hcs⟩ := ho3.2 (by omega)
          have cq : w3.cell? ⟨b, q, none⟩ = some (.int .i64 (ys.getD q 0)) := by rw [cell_of_row w3 b q cs _ _ hbk]; exact hcs q (by omega)
          have cr : w3.cell? ⟨b, r.toNat, none⟩ = some (.int .i64 (ys.getD r.toNat 0)) := by rw [cell_of_row w3 b r.toNat cs _ _ hbk]; exact hcs r.toNat (by omega)
          have fq : w3.frozen? ⟨b, q, none⟩ = false := by simp [World.frozen?, hbk]
          have fr : w3.frozen? ⟨b, r.toNat, none⟩ = false := by simp [World.frozen?, hbk]
          have ow := (ho3.set (k := q) (by omega) (ys.getD r.toNat 0)).set (k := r.toNat) (by omega) (ys.getD q 0)
          generalize ys.getD q 0 = y at cq ow
          generalize ys.getD r.toNat 0 = y' at cr ow
          have hsr : Hid (Src ((w3.setCell ⟨b, q, none⟩ (.int .i64 y')).setCell ⟨b, r.toNat, none⟩ (.int .i64 y)) g) := by
            have e1 := Src_far (i := q) hs3 (show g < b by omega) (.int .i64 y')
            exact Src_far (i := r.toNat) e1 (show g < b by omega) (.int .i64 y)
          have hchg : Chg w ((w3.setCell ⟨b, q, none⟩ (.int .i64 y')).setCell ⟨b, r.toNat, none⟩ (.int .i64 y)) g (g + 1) := chg_new (chg_new hch3 hb1 _) hb1 _
          have hz4 : Hid (H ≤ ((w3.setCell ⟨b, q, none⟩ (.int .i64 y')).setCell ⟨b, r.toNat, none⟩ (.int .i64 y)).heap.size) := by
            show _ ≤ _
            simpa [World.setCell] using hz3.out
          clear hbk hcs ho3 hch3 hs3 hz3 r1
          by_cases hrq : r.toNat = q
          · obtain rfl : r = (q : Int) := by omega
            rw [Int.toNat_natCast] at ow hsr hchg hz4 cr fr
            obtain rfl : y' = y := by rw [cq] at cr; injection cr with cr; injection cr with _ cr; exact cr.symm
            clear cr fr
            go_wp2_with fail
            go_roundw
            case rel => exact ⟨q - 1, _, by omega, by rw [show ((q - 1 : Nat) : Int) = (q : Int) - 1 by omega], ow, hsr, hchg, hz4⟩
            case measure => simp [intOf]; omega
          · go_wp2_with fail
            go_roundw
            case rel => exact ⟨q - 1, _, by omega, by rw [show ((q - 1 : Nat) : Int) = (q : Int) - 1 by omega], ow, hsr, hchg, hz4⟩
            case measure => simp [intOf]; omega
        · have hq0I : ¬ (0 : Int) < (q : Int) := by omega
          go_wp2_with fail
          go_ret
          exact ⟨A, c, ys, rfl, hc, ho2.more (Nat.le_refl _) hz2.out, hs2, hc2⟩

/-- A list of n numbers of the call's own is handed back. -/
def RetN (w : World) (n : Nat) (e : Ending) (w' : World) : Prop := ∃ v zs, e = .returned v ∧ zs.length = n ∧ OwnV w' w.heap.size v zs ∧ Below w.heap.size w w'

set_option maxHeartbeats 1000000 in
/-- spec.l01Sorted -/
theorem l01Sorted (A : Option Addr) (n c : Nat) (zs : List Int) (lo hi : Nat) (w : World) (h : Rd w lo hi A n zs) (hn : n ≤ 1048000) :
    Calls Try.prog 169 #[.slice A n c] w (RetN w n) := by
  have ha := h.all
  clear h
  go_enter Try.func169, Try.ntmps169
  go_wp2
  go_loopw [3, 4] (fun v i wr => ∃ (k : Nat) (ys : List Int), k ≤ n ∧ i = .int .i64 k ∧ Hid (ys.length = k) ∧ OwnV wr w.heap.size v ys ∧ Below w.heap.size w wr) (fun _ i _ => n - (intOf i).toNat)
  case atStart => exact ⟨0, [], Nat.zero_le _, rfl, rfl, OwnV.made w (Nat.le_refl _), (Below.refl _ _).alloc (Nat.le_refl _) _⟩
  case round =>
    obtain ⟨k, ys, hk, rfl, hl, ho, hb⟩ := hrel
    by_cases hlt : k < n
    · obtain ⟨b, off, rfl, _, _, hc⟩ := (ha.below hb (Nat.le_refl _)).2 (by omega)
      have hck := hc k hlt
      have hkl : (k : Int) < (n : Int) := by omega
      generalize zs.getD k 0 = z at hck
      obtain ⟨A', c', rfl, _, _, hown⟩ := ho.form_at hl.out
      clear hc
      go_wp2_with fail
      refine (l01PutV A' k c' z ys _ _ _ hown.rd (by omega)).mono ?_
      rintro e w1 ⟨v1, rfl, ho1, hb1⟩
      have ho2 := ho1.more hb.size
      have hb2 := hb.trans (hb1.mono hb.size)
      have hl2 : Hid ((ins z ys).length = k + 1) := by show _ = _; rw [ins_length, hl.out]
      clear ho hb hb1 ho1 hown
      go_wp2_with fail
      go_roundw
      case rel => exact ⟨k + 1, _, by omega, by go_num, hl2, ho2, hb2⟩
      case measure => simp [intOf]; omega
    · go_wp2
      go_ret
      exact ⟨_, ys, rfl, by rw [hl.out]; omega, ho, hb⟩

/-- A list of n numbers of the call's own is drawn. -/
def DrewN (g : Nat) (w : World) (P : Nat → Prop) (e : Ending) (w' : World) : Prop :=
  ∃ v zs, e = .returned v ∧ P zs.length ∧ OwnV w' w.heap.size v zs ∧ Src w' g ∧ Chg w w' g (g + 1)

/-- A call of the reading kind behind a draw. -/
theorem chg_then {w w1 w2 : World} {g : Nat} (h : Chg w w1 g (g + 1)) (b : Below w1.heap.size w1 w2) : Chg w w2 g (g + 1) := h.trans (Chg.of_below b _ _)

set_option maxHeartbeats 1000000 in
/-- spec.l01DrawHand -/
theorem l01DrawHand (g : Nat) (m : Int) (w : World) (h : Src w g) (h0 : 0 ≤ m) (h1 : m ≤ 52) :
    Calls Try.prog 170 #[.pointer (some ⟨g, 0, none⟩), .int .i64 m] w (DrewN g w fun n => n = m.toNat) := by
  obtain ⟨n, rfl⟩ := Int.eq_ofNat_of_zero_le h0
  have hn : n ≤ 52 := by omega
  rw [Int.toNat_natCast]
  go_enter Try.func170, Try.ntmps170
  go_wp2_with fail
  refine (l01Shuffled g _ h).mono ?_
  rintro e w1 ⟨A, c, zs, rfl, hc, ho, hs, hch⟩
  have hcI : (n : Int) ≤ (c : Int) := by omega
  have hr := (ho.rd).1
  obtain ⟨b, cs, rfl, _⟩ := ho.2 (by omega)
  have hrd : Rd w1 w.heap.size w1.heap.size (some ⟨b, 0, none⟩) n (zs.take n) := by
    refine ⟨by rw [List.length_take, hr]; omega, fun hp => ?_⟩
    obtain ⟨b', off, e, q1, q2, hq⟩ := ho.rd.2 (by omega)
    refine ⟨b', off, e, q1, q2, fun j hj => ?_⟩
    rw [hq j (by omega)]
    simp [List.getD, hj]
  clear hr
  go_wp2_with fail
  refine (l01Sorted _ n c _ _ _ _ hrd (by omega)).mono ?_
  rintro e w2 ⟨v, ys, rfl, hl, ho2, hb2⟩
  go_wp2_with fail
  go_ret
  exact ⟨_, ys, rfl, hl, ho2.more hch.size, hs.below hb2, chg_then hch hb2⟩
end

section
open Go.RowKit
set_option maxRecDepth 100000

theorem Plain.nil {A : Option Addr} {c : Nat} (h : Plain A c) : A = none → c = 0 := by
  rcases h with ⟨_, h⟩ | ⟨b, off, h⟩
  · exact fun _ => h
  · intro e; rw [e] at h; cases h
theorem Src.under {w w' : World} {g B : Nat} (h : Src w g) (b : Below B w w') (hg : g < B) : Src w' g := by
  obtain ⟨A, n, cc, a, s, hb, h1, h2, h3, h4, h5⟩ := h
  refine ⟨A, n, cc, a, s, (b.block g hg).trans hb, h1, h2, h3, h4, fun hn => ?_⟩
  obtain ⟨b', off, e, hb', hc⟩ := h5 hn
  refine ⟨b', off, e, hb', fun j hj => ?_⟩
  obtain ⟨x, x0, x1, hx⟩ := hc j hj
  exact ⟨x, x0, x1, by rw [World.cell?_of_block (b.block b' (by omega))]; exact hx⟩
theorem chg_under {w w1 w2 : World} {B lo hi : Nat} (h : Chg w w1 lo hi) (b : Below B w1 w2) (hB : w.heap.size ≤ B) : Chg w w2 lo hi :=
  ⟨b.os.trans h.os, b.tape.trans h.tape, b.output.trans h.output, Nat.le_trans h.size b.size, fun k hk ho => (b.block k (by omega)).trans (h.block k hk ho)⟩
theorem OwnV.single (w : World) {base : Nat} (hb : base ≤ w.heap.size) (z : Int) : OwnV (w.alloc (.cells #[.int .i64 z] 2)) base (.slice (some ⟨w.heap.size, 0, none⟩) 1 1) [z] :=
  ⟨by simp, .inr ⟨w.heap.size, 1, _, rfl, hb, heap_alloc_new w _, Nat.le_refl _, by unfold maxLen; omega, by simp, by simp⟩⟩
theorem OwnV.set0 {w : World} {base b n c : Nat} {zs : List Int} (h : OwnV w base (.slice (some ⟨b, 0, none⟩) n c) zs) (z : Int) : OwnV (w.setCell ⟨b, 0, none⟩ (.int .i64 z)) base (.slice (some ⟨b, 0, none⟩) n c) (zs.set 0 z) := by
  rcases h.2 with ⟨e, _⟩ | ⟨g, cap, cur, hv, hg, hh, h1, h2, h3, h4⟩
  · cases e
  · injection hv with e1 e2 e3
    injection e1 with e1
    injection e1 with e1
    subst e1 e2 e3
    refine ⟨by simp, .inr ⟨b, c, cur.setIfInBounds 0 (.int .i64 z), by rw [List.length_set], hg, block_set (i := 0) hh _, by rw [List.length_set]; exact h1, h2, by simpa using h3, ?_⟩⟩
    rw [List.length_set, Array.toList_setIfInBounds, List.map_set, List.take_set, h4]
theorem Rd.cut {w : World} {lo hi : Nat} {A : Option Addr} {n k : Nat} {zs : List Int} (h : Rd w lo hi A n zs) (hk : k ≤ n) : Rd w lo hi A k (zs.take k) := by
  refine ⟨by simp [h.1]; omega, fun hp => ?_⟩
  obtain ⟨b, off, e, h1, h2, hc⟩ := h.2 (by omega)
  refine ⟨b, off, e, h1, h2, fun j hj => ?_⟩
  rw [hc j (by omega)]
  simp [List.getD, hj]

set_option maxHeartbeats 3200000 in
/-- spec.l01DrawAny -/
theorem l01DrawAny (g : Nat) (w : World) (h : Src w g) :
    Calls Try.prog 145 #[.pointer (some ⟨g, 0, none⟩)] w (DrewN g w fun n => n ≤ 15) := by
  have hg := h.lt
  go_enter Try.func145, Try.ntmps145
  go_wp2_with fail
  refine (l01DrawHand g 13 _ h (by omega) (by omega)).mono ?_
  rintro e w1 ⟨v1, z1, rfl, hl1, o1, s1, k1⟩
  have hl1' : z1.length ≤ 14 := by rw [hl1]; decide
  clear hl1
  go_wp2_with fail
  refine (l01Next g 2 _ s1 (by omega)).mono ?_
  rintro e w2 ⟨r2, rfl, ⟨r20, r21⟩, s2, c2⟩
  have k2 := k1.trans c2
  have o2 := o1.chg c2 hg
  clear o1 s1 k1 c2 r21
  by_cases p0 : r2 = 0
  · subst p0
    clear o2 hl1'
    go_wp2_with fail
    refine (l01Next g 14 _ s2 (by omega)).mono ?_
    rintro e w3 ⟨r3, rfl, ⟨r30, r31⟩, s3, c3⟩
    have r32 := r31 (by omega)
    have k3 := k2.trans c3
    clear s2 k2 c3 r31
    go_wp2_with fail
    refine (l01DrawHand g r3 _ s3 (by omega) (by omega)).mono ?_
    rintro e w4 ⟨v4, z4, rfl, hl4, o4', s4, c4⟩
    have hl4' : z4.length ≤ 14 := by rw [hl4]; omega
    have o4 := o4'.more k3.size
    have k4 := k3.trans c4
    clear hl4 o4' s3 k3 c4
    have hgB : g < w.heap.size := hg
    go_wp2_with fail
    refine (l01Next g 24 _ s4 (by omega)).mono ?_
    rintro e w5 ⟨r5, rfl, ⟨r50, r51⟩, s5, c5⟩
    have o5 := o4.chg c5 hgB
    have k5 := k4.trans c5
    have z5 := k5.size
    clear s4 o4 k4 c5 r51
    obtain ⟨A5, c5, rfl, hc5, hp5, ow5⟩ := o5.form_at rfl
    by_cases q0 : r5 = 0
    · subst q0
      go_wp2_with (at_builtin; refine wpList_push rfl (.tmp 17) (.tmp 18) rfl w.heap.size _ _ rfl o5 51 rfl (by omega) z5 ?_; intro v6 w6 o6 b6)
      go_ret
      exact ⟨_, _, rfl, by simp; omega, o6, s5.under b6 hgB, chg_under k5 b6 (Nat.le_refl _)⟩
    have t0 : (r5 == 0) = false := by simpa using q0
    by_cases q1 : r5 = 1
    · subst q1
      go_wp2_with (at_builtin; refine wpList_push rfl (.tmp 22) (.tmp 23) rfl w.heap.size _ _ rfl o5 52 rfl (by omega) z5 ?_; intro v6 w6 o6 b6)
      go_ret
      exact ⟨_, _, rfl, by simp; omega, o6, s5.under b6 hgB, chg_under k5 b6 (Nat.le_refl _)⟩
    have t1 : (r5 == 1) = false := by simpa using q1
    by_cases q2 : r5 = 2
    · subst q2
      have om := Lib.hid (OwnV.single w5 z5 (-1))
      have zm : w.heap.size ≤ (w5.alloc (.cells #[.int .i64 (-1)] 2)).heap.size := by simp; omega
      have rm := (ow5.rd.still (Chg.of_alloc w5 (.cells #[.int .i64 (-1)] 2) 0 0))
      go_wp2_with (at_builtin; refine wpList_cat rfl (.tmp 27) (.tmp 28) rfl w.heap.size _ [-1] rfl om.out _ _ A5 _ c5 _ rfl hp5.nil rm (by simp; omega) zm ?_; intro v6 w6 o6 b6)
      go_ret
      exact ⟨_, _, rfl, by simp; omega, o6, (s5.still (Chg.of_alloc _ _ 0 0)).under b6 hgB, chg_under (k5.trans (Chg.of_alloc _ _ _ _)) b6 (Nat.le_refl _)⟩
    have t2 : (r5 == 2) = false := by simpa using q2
    by_cases q3 : r5 = 3
    · subst q3
      by_cases hl1 : 1 < z4.length
      · have hl1I : (1 : Int) < ((z4.length : Nat) : Int) := by omega
        obtain ⟨b, cs, rfl, hb1, hb2, hbk, hcs⟩ := ow5.2 (by omega)
        have c0 : w5.cell? ⟨b, 0, none⟩ = some (.int .i64 (z4.getD 0 0)) := by rw [cell_of_row w5 b 0 cs _ _ hbk]; exact hcs 0 (by omega)
        have c1 : w5.cell? ⟨b, 1, none⟩ = some (.int .i64 (z4.getD 1 0)) := by rw [cell_of_row w5 b 1 cs _ _ hbk]; exact hcs 1 (by omega)
        have f0 : w5.frozen? ⟨b, 0, none⟩ = false := by simp [World.frozen?, hbk]
        have o6 := o5.set0 (z4.getD 1 0)
        have s6 := Src_far (i := 0) s5 (show g < b by omega) (.int .i64 (z4.getD 1 0))
        have k6 := chg_new (i := 0) k5 hb1 (.int .i64 (z4.getD 1 0))
        generalize z4.getD 1 0 = y at c1 o6 s6 k6
        generalize z4.getD 0 0 = y' at c0
        clear hbk hcs ow5 o5 s5 k5
        go_wp2_with fail
        go_ret
        exact ⟨_, z4.set 0 y, rfl, by rw [List.length_set]; omega, o6, s6, k6⟩
      · have hl1I : ¬ (1 : Int) < ((z4.length : Nat) : Int) := by omega
        go_wp2_with fail
        go_ret
        exact ⟨_, _, rfl, by omega, o5, s5, k5⟩
    have t3 : (r5 == 3) = false := by simpa using q3
    by_cases q4 : r5 = 4
    · subst q4
      clear o5 ow5
      go_wp2_with fail
      refine (l01Shuffled g _ s5).mono ?_
      rintro e w6 ⟨A6, c6, ys, rfl, hc6, o6, s6, k6⟩
      have hcI : (14 : Int) ≤ (c6 : Int) := by omega
      obtain ⟨b, cs, rfl, _⟩ := o6.2 (by omega)
      have hrd := o6.rd.cut (k := 14) (by omega)
      go_wp2_with fail
      refine (l01Sorted _ 14 c6 _ _ _ _ hrd (by omega)).mono ?_
      rintro e w7 ⟨v7, us, rfl, hl7, o7, b7⟩
      go_wp2_with fail
      go_ret
      exact ⟨_, us, rfl, by omega, o7.more (Nat.le_trans z5 k6.size), s6.below b7, chg_then (k5.trans k6) b7⟩
    have t4 : (r5 == 4) = false := by simpa using q4
    go_wp2_with fail
    go_ret
    exact ⟨_, _, rfl, by omega, o5, s5, k5⟩
  · have t : (r2 == 0) = false := by simpa using p0
    clear p0
    have hgB : g < w.heap.size := hg
    go_wp2_with fail
    refine (l01Next g 24 _ s2 (by omega)).mono ?_
    rintro e w5 ⟨r5, rfl, ⟨r50, r51⟩, s5, c5⟩
    have o5 := o2.chg c5 hgB
    have k5 := k2.trans c5
    have z5 := k5.size
    clear s2 o2 k2 c5 r51
    obtain ⟨A5, c5, rfl, hc5, hp5, ow5⟩ := o5.form_at rfl
    by_cases q0 : r5 = 0
    · subst q0
      go_wp2_with (at_builtin; refine wpList_push rfl (.tmp 17) (.tmp 18) rfl w.heap.size _ _ rfl o5 51 rfl (by omega) z5 ?_; intro v6 w6 o6 b6)
      go_ret
      exact ⟨_, _, rfl, by simp; omega, o6, s5.under b6 hgB, chg_under k5 b6 (Nat.le_refl _)⟩
    have t0 : (r5 == 0) = false := by simpa using q0
    by_cases q1 : r5 = 1
    · subst q1
      go_wp2_with (at_builtin; refine wpList_push rfl (.tmp 22) (.tmp 23) rfl w.heap.size _ _ rfl o5 52 rfl (by omega) z5 ?_; intro v6 w6 o6 b6)
      go_ret
      exact ⟨_, _, rfl, by simp; omega, o6, s5.under b6 hgB, chg_under k5 b6 (Nat.le_refl _)⟩
    have t1 : (r5 == 1) = false := by simpa using q1
    by_cases q2 : r5 = 2
    · subst q2
      have om := Lib.hid (OwnV.single w5 z5 (-1))
      have zm : w.heap.size ≤ (w5.alloc (.cells #[.int .i64 (-1)] 2)).heap.size := by simp; omega
      have rm := (ow5.rd.still (Chg.of_alloc w5 (.cells #[.int .i64 (-1)] 2) 0 0))
      go_wp2_with (at_builtin; refine wpList_cat rfl (.tmp 27) (.tmp 28) rfl w.heap.size _ [-1] rfl om.out _ _ A5 _ c5 _ rfl hp5.nil rm (by simp; omega) zm ?_; intro v6 w6 o6 b6)
      go_ret
      exact ⟨_, _, rfl, by simp; omega, o6, (s5.still (Chg.of_alloc _ _ 0 0)).under b6 hgB, chg_under (k5.trans (Chg.of_alloc _ _ _ _)) b6 (Nat.le_refl _)⟩
    have t2 : (r5 == 2) = false := by simpa using q2
    by_cases q3 : r5 = 3
    · subst q3
      by_cases hl1 : 1 < z1.length
      · have hl1I : (1 : Int) < ((z1.length : Nat) : Int) := by omega
        obtain ⟨b, cs, rfl, hb1, hb2, hbk, hcs⟩ := ow5.2 (by omega)
        have c0 : w5.cell? ⟨b, 0, none⟩ = some (.int .i64 (z1.getD 0 0)) := by rw [cell_of_row w5 b 0 cs _ _ hbk]; exact hcs 0 (by omega)
        have c1 : w5.cell? ⟨b, 1, none⟩ = some (.int .i64 (z1.getD 1 0)) := by rw [cell_of_row w5 b 1 cs _ _ hbk]; exact hcs 1 (by omega)
        have f0 : w5.frozen? ⟨b, 0, none⟩ = false := by simp [World.frozen?, hbk]
        have o6 := o5.set0 (z1.getD 1 0)
        have s6 := Src_far (i := 0) s5 (show g < b by omega) (.int .i64 (z1.getD 1 0))
        have k6 := chg_new (i := 0) k5 hb1 (.int .i64 (z1.getD 1 0))
        generalize z1.getD 1 0 = y at c1 o6 s6 k6
        generalize z1.getD 0 0 = y' at c0
        clear hbk hcs ow5 o5 s5 k5
        go_wp2_with fail
        go_ret
        exact ⟨_, z1.set 0 y, rfl, by rw [List.length_set]; omega, o6, s6, k6⟩
      · have hl1I : ¬ (1 : Int) < ((z1.length : Nat) : Int) := by omega
        go_wp2_with fail
        go_ret
        exact ⟨_, _, rfl, by omega, o5, s5, k5⟩
    have t3 : (r5 == 3) = false := by simpa using q3
    by_cases q4 : r5 = 4
    · subst q4
      clear o5 ow5
      go_wp2_with fail
      refine (l01Shuffled g _ s5).mono ?_
      rintro e w6 ⟨A6, c6, ys, rfl, hc6, o6, s6, k6⟩
      have hcI : (14 : Int) ≤ (c6 : Int) := by omega
      obtain ⟨b, cs, rfl, _⟩ := o6.2 (by omega)
      have hrd := o6.rd.cut (k := 14) (by omega)
      go_wp2_with fail
      refine (l01Sorted _ 14 c6 _ _ _ _ hrd (by omega)).mono ?_
      rintro e w7 ⟨v7, us, rfl, hl7, o7, b7⟩
      go_wp2_with fail
      go_ret
      exact ⟨_, us, rfl, by omega, o7.more (Nat.le_trans z5 k6.size), s6.below b7, chg_then (k5.trans k6) b7⟩
    have t4 : (r5 == 4) = false := by simpa using q4
    go_wp2_with fail
    go_ret
    exact ⟨_, _, rfl, by omega, o5, s5, k5⟩

/-- A list and a number are drawn. -/
def DrewSI (w : World) (e : Ending) (w' : World) : Prop :=
  ∃ A c zs x, e = .returned (.tuple #[.slice A zs.length c, .int .i64 x]) ∧ zs.length ≤ 15 ∧ zs.length ≤ c ∧ Plain A c ∧ Own w' w.heap.size w'.heap.size A zs.length zs ∧ Below w.heap.size w w'



end

end Go.Proofs.Yteglffbeldlibaa.Lib1
