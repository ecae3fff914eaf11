/- The dice of the laws: roll and below. What is rolled is left open but for its range. -/
import Derived.Test.YteojdlacdnfgiaaDraws
import Derived.Laws.BitsAllLaws
import Derived.Deep.QuietTactic
import Derived.BigQuiet
import Derived.Lib.Hide
namespace Go.Proofs.Yteojdlacdnfgiaa.Lib1
open Go.RowKit
set_option maxRecDepth 100000

/-- Dice in block g. -/
def Dice (w : World) (g : Nat) : Prop :=
  ∃ (A : Option Addr) (n c a : Nat) (s : Int), w.heap[g]? = some (.cells #[.slice A n c, .int .i64 a, .int .u64 s] 72 (0, 0)) ∧ a ≤ n ∧ n ≤ 1048576 ∧ RdB w g A n
theorem Dice.chg {w w' : World} {g lo hi : Nat} (h : Dice w g) (c : Chg w w' lo hi) (hd : g < lo ∨ hi = 0) : Dice w' g := by
  obtain ⟨A, n, cc, a, s, hb, h1, h2, h5⟩ := h
  exact ⟨A, n, cc, a, s, (c.block g (lt_of_block hb) (by omega)).trans hb, h1, h2, h5.chg c (by omega)⟩
theorem Dice.still {w w' : World} {g : Nat} (h : Dice w g) (c : Chg w w' 0 0) : Dice w' g := h.chg c (.inr rfl)
theorem Dice.lt {w : World} {g : Nat} (h : Dice w g) : g < w.heap.size := by
  obtain ⟨A, n, cc, a, s, hb, _⟩ := h
  exact lt_of_block hb
def MadeDice (w : World) (e : Ending) (w' : World) : Prop := e = .returned (.pointer (some ⟨w.heap.size, 0, none⟩)) ∧ Dice w' w.heap.size ∧ Below w.heap.size w w'

set_option maxHeartbeats 1600000 in
/-- roll -/
theorem roll (A : Option Addr) (n c : Nat) (seed : Int) (w : World) (h : Bytes w A n) (hn : n ≤ 1048576) :
    Calls Try.prog 23 #[.slice A n c, .int .u64 seed] w (MadeDice w) := by
  have H := Lib.hid h
  clear h
  go_enter Try.func23, Try.ntmps23
  go_wp2
  go_loopw [6] (fun i wr => ∃ (k : Nat) (s : Int), k ≤ n ∧ i = .int .i64 k ∧ Hid (wr.heap[w.heap.size]? = some (.cells #[.slice A n c, .int .i64 ((0 : Nat) : Int), .int .u64 s] 72 (0, 0))) ∧ Below w.heap.size w wr) (fun i _ => n - (intOf i).toNat)
  case atStart => exact ⟨0, _, Nat.zero_le _, rfl, heap_alloc_new w _, (Below.refl _ _).alloc (Nat.le_refl _) _⟩
  case round =>
    obtain ⟨k, s, hk, rfl, hb, hbw⟩ := hrel
    have c2 : wr.cell? ⟨w.heap.size, 2, none⟩ = some (.int .u64 s) := by rw [cell_of_row wr w.heap.size 2 _ _ _ hb.out]; rfl
    have f2 : wr.frozen? ⟨w.heap.size, 2, none⟩ = false := by simp [World.frozen?, hb.out]
    by_cases hlt : k < n
    · have hltI : (k : Int) < (n : Int) := by omega
      obtain ⟨b, off, rfl, hbl, hc⟩ := H.out (by omega)
      obtain ⟨x, x0, x1, hx⟩ := hc k hlt
      have hx' : wr.cell? ⟨b, off + k, none⟩ = some (.int .u8 x) := by rw [World.cell?_of_block (hbw.block b hbl)]; exact hx
      clear hc hx
      go_wp2
      go_region
      all_goals
        go_wp2
        go_roundw
        case rel => exact ⟨k + 1, _, by omega, by go_num, block_set (w := wr) (i := 2) hb.out _, (hbw.setCell (Nat.le_refl _) _).drew⟩
        case measure => simp [intOf]; omega
    · go_wp2
      go_ret
      exact ⟨rfl, ⟨A, n, c, 0, s, hb.out, Nat.zero_le _, hn, H.out.rd hbw⟩, hbw⟩

/-- What a throw of the dice in block g leaves. -/
def Thrown (g : Nat) (w : World) (m : Int) (e : Ending) (w' : World) : Prop := ∃ r : Int, e = .returned (.int .i64 r) ∧ 0 ≤ r ∧ r < m ∧ Dice w' g ∧ Chg w w' g (g + 1)
theorem mask24 (E : Int) (h0 : 0 ≤ E) (h1 : E < 18446744073709551616) : ∃ y : Nat, y ≤ 16777215 ∧ wrap64 (bits .and .u64 (E / 8589934592) 16777215) = (y : Int) := by
  refine ⟨(E / 8589934592).toNat &&& 16777215, Nat.and_le_right, ?_⟩
  rw [u64_and _ _ (by omega) (by omega) (by omega) (by omega)]
  have : (E / 8589934592).toNat &&& (16777215 : Int).toNat ≤ 16777215 := Nat.and_le_right
  unfold wrap64
  show ((((E / 8589934592).toNat &&& (16777215 : Int).toNat : Nat) : Int) + 9223372036854775808) % 18446744073709551616 - 9223372036854775808 = (((E / 8589934592).toNat &&& (16777215 : Int).toNat : Nat) : Int)
  omega
theorem wrap_lim (n : Int) : 0 ≤ IntKind.u64.wrap n ∧ IntKind.u64.wrap n < 18446744073709551616 := by rw [IntKind.wrap_u64]; omega
theorem modQ (y m : Int) (h : 1 ≤ m) : 0 ≤ y % m ∧ y % m < m := ⟨Int.emod_nonneg _ (by omega), Int.emod_lt_of_pos _ (by omega)⟩
theorem thrown1 {g : Nat} {w : World} {A : Option Addr} {n c a q : Nat} {s s' r m : Int}
    (hb : w.heap[g]? = some (.cells #[.slice A n c, .int .i64 a, .int .u64 s] 72 (0, 0))) (hr : RdB w g A n) (ha : a ≤ n) (hn : n ≤ 1048576) (hp : 0 ≤ r ∧ r < m) :
    Thrown g w m (.returned (.int .i64 r)) ((w.setCell ⟨g, 2, none⟩ (.int .u64 s')).drewN q) :=
  ⟨r, rfl, hp.1, hp.2, ⟨A, n, c, a, s', block_set (i := 2) hb _, ha, hn, (hr.chg (chg_set w g 2 _) (.inl (Nat.le_refl _))).chg (Chg.drewN _ q 0 0) (.inr rfl)⟩, (chg_set w g 2 _).trans (Chg.drewN _ _ _ _)⟩
theorem thrown2 {g : Nat} {w : World} {A : Option Addr} {n c a q : Nat} {s s' r m : Int}
    (hb : w.heap[g]? = some (.cells #[.slice A n c, .int .i64 a, .int .u64 s] 72 (0, 0))) (hr : RdB w g A n) (hlt : a < n) (hn : n ≤ 1048576) (hp : 0 ≤ r ∧ r < m) :
    Thrown g w m (.returned (.int .i64 r)) (((w.setCell ⟨g, 2, none⟩ (.int .u64 s')).drewN q).setCell ⟨g, 1, none⟩ (.int .i64 ((a : Int) + 1))) :=
  ⟨r, rfl, hp.1, hp.2, ⟨A, n, c, a + 1, s', block_set (i := 1) (w := (w.setCell ⟨g, 2, none⟩ (.int .u64 s')).drewN q) (block_set (i := 2) hb _) _, hlt, hn,
    ((hr.chg (chg_set w g 2 _) (.inl (Nat.le_refl _))).chg (Chg.drewN _ q 0 0) (.inr rfl)).chg (chg_set _ g 1 _) (.inl (Nat.le_refl _))⟩, ((chg_set w g 2 _).trans (Chg.drewN _ _ _ _)).trans (chg_set _ g 1 _)⟩
set_option maxHeartbeats 1600000 in
/-- below -/
theorem below_ (g : Nat) (m : Int) (w : World) (h : Dice w g) (h1 : 1 ≤ m) (hm : m ≤ 1048576) :
    Calls Try.prog 28 #[.pointer (some ⟨g, 0, none⟩), .int .i64 m] w (Thrown g w m) := by
  obtain ⟨A, n, c, a, s, hb, ha, hn, hr⟩ := h
  have c0 : w.cell? ⟨g, 0, none⟩ = some (.slice A n c) := by rw [cell_of_row w g 0 _ _ _ hb]; rfl
  have c1 : w.cell? ⟨g, 1, none⟩ = some (.int .i64 a) := by rw [cell_of_row w g 1 _ _ _ hb]; rfl
  have c2 : w.cell? ⟨g, 2, none⟩ = some (.int .u64 s) := by rw [cell_of_row w g 2 _ _ _ hb]; rfl
  have f1 : w.frozen? ⟨g, 1, none⟩ = false := by simp [World.frozen?, hb]
  have f2 : w.frozen? ⟨g, 2, none⟩ = false := by simp [World.frozen?, hb]
  have HB := Lib.hid hb
  have HR := Lib.hid hr
  clear hb hr
  have hE := wrap_lim (IntKind.u64.wrap (s * 6364136223846793005) + 1442695040888963407)
  obtain ⟨y, hy, hxe⟩ := mask24 (IntKind.u64.wrap (IntKind.u64.wrap (s * 6364136223846793005) + 1442695040888963407)) hE.1 hE.2
  clear hE
  have hm0 : (m == 0) = false := by simp; omega
  by_cases hlt : a < n
  · obtain ⟨b, off, rfl, hne, hc⟩ := HR.out (by omega)
    obtain ⟨x, x0, x1, hx⟩ := hc a hlt
    have hne' : ¬ b = g := by omega
    have hltI : (a : Int) < (n : Int) := by omega
    clear hc hne
    go_enter Try.func28, Try.ntmps28
    go_wp2
    go_quiet (fail)
    go_wp2
    go_quiet (fail)
    go_wp2
    go_ret
    exact thrown2 HB.out HR.out hlt hn (modQ _ _ h1)
  · have hltI : ¬ (a : Int) < (n : Int) := by omega
    go_enter Try.func28, Try.ntmps28
    go_wp2
    go_quiet (fail)
    go_wp2
    go_ret
    exact thrown1 HB.out HR.out ha hn (modQ _ _ h1)

end Go.Proofs.Yteojdlacdnfgiaa.Lib1
