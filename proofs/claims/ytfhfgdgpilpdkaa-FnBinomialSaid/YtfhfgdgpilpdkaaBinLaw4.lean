/- The law of binomial coefficients. -/
import Derived.Test.YtfhfgdgpilpdkaaRank4
import Derived.Test.YtfhfgdgpilpdkaaDraws
namespace Go.Proofs.Ytfhfgdgpilpdkaa.Lib1
open Go.RowKit
set_option maxRecDepth 100000

def DrewII (w : World) (e : Ending) (w' : World) : Prop := ∃ a b : Int, e = .returned (.tuple #[.int .i64 a, .int .i64 b]) ∧ Below w.heap.size w w'

def arr3 : Array Value := #[.int .i64 (-1), .int .i64 53, .int .i64 52]
def arr4 : Array Value := #[.int .i64 (-1), .int .i64 53, .int .i64 (-9223372036854775808), .int .i64 9223372036854775807]
theorem arr3_at (r : Int) (h0 : 0 ≤ r) (h1 : r < 3) : ∃ z : Int, arr3[r.toNat]? = some (.int .i64 z) := by
  have hr : r = 0 ∨ r = 1 ∨ r = 2 := by omega
  rcases hr with rfl | rfl | rfl
  · exact ⟨-1, rfl⟩
  · exact ⟨53, rfl⟩
  · exact ⟨52, rfl⟩
theorem arr4_at (r : Int) (h0 : 0 ≤ r) (h1 : r < 4) : ∃ z : Int, arr4[r.toNat]? = some (.int .i64 z) := by
  have hr : r = 0 ∨ r = 1 ∨ r = 2 ∨ r = 3 := by omega
  rcases hr with rfl | rfl | rfl | rfl
  · exact ⟨-1, rfl⟩
  · exact ⟨53, rfl⟩
  · exact ⟨-9223372036854775808, rfl⟩
  · exact ⟨9223372036854775807, rfl⟩

def NextA (w : World) (g : Nat) (m : Int) (e : Ending) (w' : World) : Prop :=
  ∃ r z : Int, e = .returned (.int .i64 r) ∧ 0 ≤ r ∧ r < m ∧ w'.cell? ⟨w.heap.size, r.toNat, none⟩ = some (.int .i64 z) ∧ Src w' g ∧ Chg w w' g (g + 1) ∧ w.heap.size < w'.heap.size
theorem cell_abv {w w' : World} {lo hi : Nat} {a : Addr} {v : Value} (h : w.cell? a = some v) (c : Chg w w' lo hi) (ha : a.block < lo ∨ hi ≤ a.block) : w'.cell? a = some v := by
  rw [World.cell?_of_block (c.block _ (lt_of_cell h) ha)]; exact h
theorem next_arr {w : World} {g : Nat} {m : Int} {C : Array Value} (hC : ∀ r : Int, 0 ≤ r → r < m → ∃ z : Int, C[r.toNat]? = some (.int .i64 z)) (h1 : 1 ≤ m) (h2 : m ≤ 100) (h : Src w g) :
    Calls Try.prog 67 #[.pointer (some ⟨g, 0, none⟩), .int .i64 m] (w.alloc (.cells C 2)).drew (NextA w g m) := by
  have hc : Chg w (w.alloc (.cells C 2)).drew 0 0 := Chg.alloc_drew _ _ _ _
  refine (l01Next g m _ (h.still hc) (by omega)).mono ?_
  rintro e w' ⟨r, rfl, ⟨r0, r1⟩, s', c'⟩
  have r2 := r1 h1
  obtain ⟨z, hz⟩ := hC r r0 r2
  have hg := h.lt
  have hsz := c'.size
  have hs1 : (w.alloc (.cells C 2)).drew.heap.size = w.heap.size + 1 := by simp
  refine ⟨r, z, rfl, r0, r2, ?_, s', (hc.any _ _).trans c', by omega⟩
  rw [World.cell?_of_block (c'.block w.heap.size (by omega) (.inr (by omega)))]
  exact (World.cell?_alloc_mark w _ _ (0, 0) _).trans hz

theorem next_blk {W : World} {g B : Nat} {m : Int} {C : Array Value} (hC : ∀ r : Int, 0 ≤ r → r < m → ∃ z : Int, C[r.toNat]? = some (.int .i64 z)) (hB : W.heap[B]? = some (.cells C 2 (0, 0))) (hne : g < B) (h1 : 1 ≤ m) (h2 : m ≤ 100) (h : Src W g) :
    Calls Try.prog 67 #[.pointer (some ⟨g, 0, none⟩), .int .i64 m] W fun e w' => ∃ r z : Int, e = .returned (.int .i64 r) ∧ 0 ≤ r ∧ r < m ∧ w'.cell? ⟨B, r.toNat, none⟩ = some (.int .i64 z) ∧ Src w' g ∧ Chg W w' g (g + 1) := by
  refine (l01Next g m _ h (by omega)).mono ?_
  rintro e w' ⟨r, rfl, ⟨r0, r1⟩, s', c'⟩
  have r2 := r1 h1
  obtain ⟨z, hz⟩ := hC r r0 r2
  refine ⟨r, z, rfl, r0, r2, ?_, s', c'⟩
  rw [cell_of_row _ _ _ _ _ _ ((c'.block B (lt_of_block hB) (.inr hne)).trans hB)]
  exact hz

set_option maxHeartbeats 4000000 in
theorem DrawBinomial (A : Option Addr) (n c : Nat) (w : World) (h : Bytes w A n) (hn : n ≤ 1048576) :
    Calls Try.prog 32 #[.slice A n c] w (DrewII w) := by
  go_enter Try.func32, Try.ntmps32
  go_wp2_with fail
  refine (l01From A n c _ h hn).mono ?_
  rintro e w1 ⟨rfl, s1, b1⟩
  have hg := s1.lt
  clear h
  go_wp2_with fail
  refine (l01Next _ 12 _ s1 (by omega)).mono ?_
  rintro e w2 ⟨r2, rfl, ⟨r20, r21⟩, s2, c2⟩
  have b2 := below_draw b1 c2 (Nat.le_refl _) hg
  have hg2 := s2.lt
  clear s1 b1 c2 r21
  by_cases q0 : r2 = 0
  · subst q0
    go_wp2_with fail
    have HN1 : Hid (Calls Try.prog 67 #[.pointer (some ⟨w.heap.size, 0, none⟩), .int .i64 3] (w2.alloc (.cells #[.int .i64 (-1), .int .i64 53, .int .i64 52] 2)).drew (NextA w2 w.heap.size 3)) := next_arr arr3_at (by omega) (by omega) s2
    have HN3 := Lib.hid (l01Next w.heap.size 3 w2.drew (s2.still (Chg.drewN _ 1 0 0)) (by omega))
    go_region_with (go_at_call 67; first | (refine (l01Next w.heap.size 4 w3 s3 (by omega)).mono ?_; rintro e w4 ⟨r4, rfl, _, s4, c4⟩; have hz4 := cell_abv hz c4 hgz; have b4 := below_draw b3 c4 (Nat.le_refl _) s3.lt) | (refine (l01Next w.heap.size 4 (w3.alloc (.cells #[.int .i64 (-1), .int .i64 53, .int .i64 52] 2)) (s3.still (Chg.of_alloc _ _ _ _)) (by omega)).mono ?_; rintro e w4 ⟨r4, rfl, _, s4, c4⟩; have hz4 := cell_abv hv3 c4 hgz; have b4 := below_draw (b3.alloc (Nat.le_of_lt s3.lt) _) c4 (Nat.le_refl _) (by have := s3.lt; simp; omega)) | (refine (l01Next w.heap.size 4 w3 s3 (by omega)).mono ?_; rintro e w4 ⟨r4, rfl, _, s4, c4⟩; have hv4 := (World.cell?_alloc_mark w4 #[.int .i64 (-1), .int .i64 53, .int .i64 52] 2 (0, 0) _).trans hy; have b4 := below_draw b3 c4 (Nat.le_refl _) s3.lt) | (go_fit HN1.out; rintro e w3 ⟨r3, z, rfl, r30, r32, hz, s3, c3, hl3⟩; have hgz : w2.heap.size < w.heap.size ∨ w.heap.size + 1 ≤ w2.heap.size := .inr hg2; have b3 := below_draw b2 c3 (Nat.le_refl _) hg2) | (go_fit HN3.out; rintro e w3 ⟨r3, rfl, ⟨r30, r31⟩, s3, c3⟩; have r32 := r31 (by omega); obtain ⟨z, hz'⟩ := arr3_at r3 r30 r32; have hy : (#[.int .i64 (-1), .int .i64 53, .int .i64 52] : Array Value)[r3.toNat]? = some (.int .i64 z) := hz'; have hx : ([.int .i64 (-1), .int .i64 53, .int .i64 52] : List Value)[r3.toNat]? = some (.int .i64 z) := (by simpa using hy); have hv3 : (w3.alloc (.cells #[.int .i64 (-1), .int .i64 53, .int .i64 52] 2)).cell? ⟨w3.heap.size, r3.toNat, none⟩ = some (.int .i64 z) := (World.cell?_alloc_mark w3 _ _ (0, 0) _).trans hy; have hgz : w3.heap.size < w.heap.size ∨ w.heap.size + 1 ≤ w3.heap.size := .inr s3.lt; have b3 := below_draw b2.drew c3 (Nat.le_refl _) hg2; clear hz' r31))
    all_goals
      go_wp2
      go_ret2
      first | exact ⟨_, _, rfl, b4⟩ | exact ⟨_, _, rfl, b4.alloc (Nat.le_of_lt s4.lt) _⟩
  have t0 : (r2 == 0) = false := by simpa using q0
  by_cases q1 : r2 = 1
  · subst q1
    go_wp2_with fail
    have HN1 := Lib.hid (l01Next w.heap.size 53 (w2.alloc (.cells #[.int .i64 (-1), .int .i64 53, .int .i64 (-9223372036854775808), .int .i64 9223372036854775807] 2)).drew (s2.still (Chg.alloc_drew _ _ _ _)) (by omega))
    have HN3 := Lib.hid (l01Next w.heap.size 53 w2.drew (s2.still (Chg.drewN _ 1 0 0)) (by omega))
    have ha2 : Hid ((w2.alloc (.cells #[.int .i64 (-1), .int .i64 53, .int .i64 (-9223372036854775808), .int .i64 9223372036854775807] 2)).drew.heap[w2.heap.size]? = some (.cells #[.int .i64 (-1), .int .i64 53, .int .i64 (-9223372036854775808), .int .i64 9223372036854775807] 2 (0, 0))) := heap_alloc_new w2 _
    go_region_with (go_at_call 67; first | (refine (next_blk (g := w.heap.size) (m := 4) arr4_at hb3 hg2 (by omega) (by omega) s3).mono ?_; rintro e w4 ⟨r4, z, rfl, r40, r42, hz, s4, c4⟩; have b4 := below_draw b3 c4 (Nat.le_refl _) s3.lt) | (refine (next_blk (W := w3.alloc (.cells #[.int .i64 (-1), .int .i64 53, .int .i64 (-9223372036854775808), .int .i64 9223372036854775807] 2)) (g := w.heap.size) (m := 4) arr4_at (heap_alloc_new w3 _) s3.lt (by omega) (by omega) (s3.still (Chg.of_alloc _ _ _ _))).mono ?_; rintro e w4 ⟨r4, z, rfl, r40, r42, hz, s4, c4⟩; have b4 := below_draw (b3.alloc (Nat.le_of_lt s3.lt) _) c4 (Nat.le_refl _) (by have := s3.lt; simp; omega)) | (refine (l01Next w.heap.size 4 w3 s3 (by omega)).mono ?_; rintro e w4 ⟨r4, rfl, ⟨r40, r41⟩, s4, c4⟩; have r42 := r41 (by omega); obtain ⟨z, hz'⟩ := arr4_at r4 r40 r42; have hy : (#[.int .i64 (-1), .int .i64 53, .int .i64 (-9223372036854775808), .int .i64 9223372036854775807] : Array Value)[r4.toNat]? = some (.int .i64 z) := hz'; have hx : ([.int .i64 (-1), .int .i64 53, .int .i64 (-9223372036854775808), .int .i64 9223372036854775807] : List Value)[r4.toNat]? = some (.int .i64 z) := (by simpa using hy); have hv4 := (World.cell?_alloc_mark w4 #[.int .i64 (-1), .int .i64 53, .int .i64 (-9223372036854775808), .int .i64 9223372036854775807] 2 (0, 0) _).trans hy; have b4 := below_draw b3 c4 (Nat.le_refl _) s3.lt; clear hz' r41) | (go_fit HN1.out; rintro e w3 ⟨r3, rfl, ⟨r30, r31⟩, s3, c3⟩; have hb3 := (c3.block w2.heap.size (by simp) (.inr hg2)).trans ha2.out; have b3 := below_draw (b2.alloc (Nat.le_of_lt hg2) (.cells #[.int .i64 (-1), .int .i64 53, .int .i64 (-9223372036854775808), .int .i64 9223372036854775807] 2)).drew c3 (Nat.le_refl _) (by simp; omega)) | (go_fit HN3.out; rintro e w3 ⟨r3, rfl, ⟨r30, r31⟩, s3, c3⟩; have b3 := below_draw b2.drew c3 (Nat.le_refl _) hg2))
    all_goals
      go_wp2
      go_ret2
      first | exact ⟨_, _, rfl, b4⟩ | exact ⟨_, _, rfl, b4.alloc (Nat.le_of_lt s4.lt) _⟩
  have t1 : (r2 == 1) = false := by simpa using q1
  go_wp2_with fail
  refine (l01Next _ 53 _ s2 (by omega)).mono ?_
  rintro e w3 ⟨r3, rfl, ⟨r30, r31⟩, s3, c3⟩
  have r32 := r31 (by omega)
  have b3 := below_draw b2 c3 (Nat.le_refl _) hg2
  have hg3 := s3.lt
  clear s2 b2 c3 r31
  go_wp2_with fail
  refine (l01Next _ (r3 + 2) _ s3 (by omega)).mono ?_
  rintro e w4 ⟨r4, rfl, _, s4, c4⟩
  have b4 := below_draw b3 c4 (Nat.le_refl _) hg3
  go_wp2_with fail
  go_ret2
  exact ⟨_, _, rfl, b4⟩

theorem bin_sum {n k : Int} (h : 0 ≤ n ∧ n ≤ 52) (hk : 0 ≤ k ∧ k ≤ n) (h0 : ¬ k = 0) (h1 : ¬ k = n) : binV n k = binV (n - 1) (k - 1) + binV (n - 1) k ∧ binV n k = binV n (n - k) ∧ 0 ≤ binV (n - 1) (k - 1) ∧ binV (n - 1) (k - 1) ≤ 4503599627370496 ∧ 0 ≤ binV (n - 1) k ∧ binV (n - 1) k ≤ 4503599627370496 := by
  obtain ⟨N, hN⟩ := Int.eq_ofNat_of_zero_le (show 0 ≤ n - 1 by omega)
  obtain ⟨K, hK⟩ := Int.eq_ofNat_of_zero_le (show 0 ≤ k - 1 by omega)
  obtain rfl : n = ((N + 1 : Nat) : Int) := by omega
  obtain rfl : k = ((K + 1 : Nat) : Int) := by omega
  have e1 : ((N + 1 : Nat) : Int) - 1 = (N : Int) := by omega
  have e2 : ((K + 1 : Nat) : Int) - 1 = (K : Int) := by omega
  have e3 : ((N + 1 : Nat) : Int) - ((K + 1 : Nat) : Int) = ((N + 1 - (K + 1) : Nat) : Int) := by omega
  rw [e1, e2, e3, binV_ch (by omega), binV_ch (by omega), binV_ch (by omega), binV_ch (by omega), ch_symm (N + 1) (K + 1) (by omega), ch_pascal]
  have := ch_le K (show N ≤ 52 by omega)
  have := ch_le (K + 1) (show N ≤ 52 by omega)
  exact ⟨by omega, rfl, by omega, by omega, by omega, by omega⟩
theorem bin_one {n k : Int} (h : 0 ≤ n ∧ n ≤ 52) (hk : k = 0 ∨ k = n) : binV n k = 1 := by
  obtain ⟨N, rfl⟩ := Int.eq_ofNat_of_zero_le h.1
  rcases hk with rfl | rfl
  · rw [show (0 : Int) = ((0 : Nat) : Int) by rfl, binV_ch (by omega), ch_zero]; rfl
  · rw [binV_ch (by omega), ch_self]; rfl

set_option maxHeartbeats 4000000 in
theorem law_FnBinomial (A : Option Addr) (n c : Nat) (w : World) (h : Bytes w A n) :
    Calls Try.prog 5 #[.slice A n c] w fun e w' => e = .returned (.bool true) ∧ Below w.heap.size w w' := by
  by_cases hn : 4096 < n
  · have hb := Lib.hid (decide_eq_true hn)
    go_enter Try.func5, Try.ntmps5
    go_wp2_with fail
    refine (big _ _ _ _).mono ?_
    rintro e w' ⟨rfl, rfl⟩
    rw [hb.out]
    go_wp2_with fail
    go_ret
    exact ⟨rfl, Below.refl _ _⟩
  · have hb := Lib.hid (decide_eq_false hn)
    go_enter Try.func5, Try.ntmps5
    go_wp2_with fail
    refine (big _ _ _ _).mono ?_
    rintro e w' ⟨rfl, rfl⟩
    rw [hb.out]
    go_wp2_with fail
    refine (DrawBinomial A n c _ h (by omega)).mono ?_
    rintro e w1 ⟨N, K, rfl, b1⟩
    clear h hn hb
    go_wp2_with fail
    refine (impl_Binomial N K _).mono ?_
    rintro e w' ⟨rfl, rfl⟩
    by_cases h1 : N < 0
    · rw [binV_no1 (by omega)]
      go_wp2_with fail
      go_ret
      exact ⟨rfl, b1⟩
    by_cases h2 : 52 < N
    · rw [binV_no1 (by omega)]
      go_wp2_with fail
      go_ret
      exact ⟨rfl, b1⟩
    by_cases h3 : K < 0
    · rw [binV_no2 (by omega) (by omega)]
      go_wp2_with fail
      go_ret
      exact ⟨rfl, b1⟩
    by_cases h4 : N < K
    · rw [binV_no2 (by omega) (by omega)]
      go_wp2_with fail
      go_ret
      exact ⟨rfl, b1⟩
    by_cases h5 : K = 0
    · rw [bin_one (by omega) (.inl h5)]
      subst h5
      go_wp2_with fail
      go_ret
      exact ⟨rfl, b1⟩
    have h5' : (K == 0) = false := by simpa using h5
    by_cases h6 : K = N
    · rw [bin_one (by omega) (.inr h6)]
      subst h6
      go_wp2_with fail
      go_ret
      exact ⟨rfl, b1⟩
    have h6' : (K == N) = false := by simpa using h6
    obtain ⟨q1, q2, q3, q4, q5, q6⟩ := bin_sum (n := N) (k := K) (by omega) (by omega) h5 h6
    have Q1 := Lib.hid q1
    have Q2 := Lib.hid q2
    clear q1 q2
    go_wp2_with fail
    refine (impl_Binomial (N - 1) (K - 1) _).mono ?_
    rintro e w' ⟨rfl, rfl⟩
    go_wp2_with fail
    refine (impl_Binomial (N - 1) K _).mono ?_
    rintro e w' ⟨rfl, rfl⟩
    rw [Q1.out]
    generalize binV (N - 1) (K - 1) = x at q3 q4 Q1
    generalize binV (N - 1) K = y at q5 q6 Q1
    have Q3 : Hid (binV N (N - K) = x + y) := by show _ = _; rw [← Q2.out, Q1.out]
    go_wp2_with fail
    refine (impl_Binomial N (N - K) _).mono ?_
    rw [Q3.out]
    rintro e w' ⟨rfl, rfl⟩
    go_wp2_with fail
    go_ret
    exact ⟨rfl, b1⟩
end Go.Proofs.Ytfhfgdgpilpdkaa.Lib1
