/- The contract of the draw of a card's text, and the law FnCards. -/
import Derived.Test.YtboagmdpefamgaaDraw
import Derived.Lib.SlBytesConst
import Derived.WalkSpells
import Derived.Deep.RegionWith
import Derived.Deep.DeepFit
namespace Go.Proofs.Ytboagmdpefamgaa.Lib1
open Go.RowKit

/-- A string is handed back. -/
def RetStr (w : World) (e : Ending) (w' : World) : Prop := ∃ s : ByteArray, e = .returned (.string s) ∧ s.size ≤ 1048576 ∧ Below w.heap.size w w'

theorem textV_size (n : Int) : (textV n).size = 2 := by unfold textV; rw [strOfNums_size]; rfl

theorem conv_const (w : World) (C : Array Value) (n c : Nat) :
    (convert 22 22 (.slice (some ⟨w.heap.size, 0, none⟩) n c)).run Try.prog (w.alloc (.cells C 5)).drew = .ok (.slice (some ⟨w.heap.size, 0, none⟩) n c) (w.alloc (.cells C 5 (C.size, C.size + 1))).drew :=
  Lib.run_convert_bytes_const (P := Try.prog) w.drew 22 5 C n c Try.underlying22 Try.underlying5

theorem conv2p (w : World) (x y : Int) :
    (convert 22 9 (.slice (some ⟨w.heap.size, 0, none⟩) 2 2)).run Try.prog (w.alloc (.cells #[.int .u8 x, .int .u8 y] 5)) = .ok (.string (strOfNums [x, y])) (w.alloc (.cells #[.int .u8 x, .int .u8 y] 5)) := by
  refine run_convert_bytes_arg _ 22 5 Try.underlying22 Try.underlying5 _ 0 2 2 [x, y] rfl ?_ 9 Try.underlying9
  intro i hi
  match i, hi with
  | 0, _ => simp
  | 1, _ => simp

theorem conv2q (w : World) (o : Obj) (x y : Int) :
    (convert 22 9 (.slice (some ⟨w.heap.size + 1, 0, none⟩) 2 2)).run Try.prog ((w.alloc o).alloc (.cells #[.int .u8 x, .int .u8 y] 5)) = .ok (.string (strOfNums [x, y])) ((w.alloc o).alloc (.cells #[.int .u8 x, .int .u8 y] 5)) := by
  have h := conv2p (w.alloc o) x y
  rwa [show (w.alloc o).heap.size = w.heap.size + 1 by simp] at h

/-- The constant's five bytes. -/
def five : Array Value := #[.int .u8 49, .int .u8 116, .int .u8 48, .int .u8 120, .int .u8 97]
theorem five_at (r : Int) (h0 : 0 ≤ r) (h1 : r < 5) : ∃ z : Int, 0 ≤ z ∧ z ≤ 255 ∧ five[r.toNat]? = some (.int .u8 z) := by
  have hr : r = 0 ∨ r = 1 ∨ r = 2 ∨ r = 3 ∨ r = 4 := by omega
  rcases hr with rfl | rfl | rfl | rfl | rfl
  · exact ⟨49, by omega, by omega, rfl⟩
  · exact ⟨116, by omega, by omega, rfl⟩
  · exact ⟨48, by omega, by omega, rfl⟩
  · exact ⟨120, by omega, by omega, rfl⟩
  · exact ⟨97, by omega, by omega, rfl⟩

/-- A draw made where the five bytes lie in a new block, marked or not. -/
def Next5 (w : World) (g : Nat) (fr : Nat × Nat) (e : Ending) (w' : World) : Prop :=
  ∃ r z : Int, e = .returned (.int .i64 r) ∧ 0 ≤ r ∧ r < 5 ∧ 0 ≤ z ∧ z ≤ 255 ∧ w'.cell? ⟨w.heap.size, r.toNat, none⟩ = some (.int .u8 z) ∧ Src w' g ∧ Chg w w' g (g + 1) ∧ w'.heap[w.heap.size]? = some (.cells five 5 fr) ∧ w.heap.size < w'.heap.size
theorem next_const {w : World} {g : Nat} (h : Src w g) (fr : Nat × Nat) :
    Calls Try.prog 49 #[.pointer (some ⟨g, 0, none⟩), .int .i64 5] (w.alloc (.cells five 5 fr)).drew (Next5 w g fr) := by
  have hc : Chg w (w.alloc (.cells five 5 fr)).drew 0 0 := Chg.alloc_drew _ _ _ _
  refine (l01Next g 5 _ (h.still hc) (by omega)).mono ?_
  rintro e w' ⟨r, rfl, ⟨r0, r1⟩, s, c⟩
  have r2 := r1 (by omega)
  have hg := h.lt
  have hsz : w.heap.size < (w.alloc (.cells five 5 fr)).drew.heap.size := by show _ < (w.heap.push _).size; simp
  have hb := c.block w.heap.size hsz (by omega)
  have hbk : w'.heap[w.heap.size]? = some (.cells five 5 fr) := hb.trans (heap_alloc_new w _)
  obtain ⟨z, z0, z1, hz⟩ := five_at r r0 r2
  exact ⟨r, z, rfl, r0, r2, z0, z1, by rw [cell_of_row w' _ _ _ _ _ hbk]; exact hz, s, (hc.any _ _).trans c, hbk, Nat.lt_of_lt_of_le hsz c.size⟩
/-- The mark that is laid behind the five bytes, in whatever world. -/
theorem mark_const {w : World} {g b : Nat} (hb : w.heap[b]? = some (.cells five 5 (0, 0))) (h : Src w g) (hne : b ≠ g) :
    ∃ w', (convert 22 22 (.slice (some ⟨b, 0, none⟩) 5 5)).run Try.prog w = .ok (.slice (some ⟨b, 0, none⟩) 5 5) w' ∧ Src w' g ∧ Chg w w' b (b + 1) ∧ (∀ a, w'.cell? a = w.cell? a) ∧ w'.heap.size = w.heap.size := by
  have hlt := lt_of_block hb
  have hsh : w.shape? b = some (5, five.size) := by
    unfold World.shape?
    rw [hb]
  have hcg : Chg w (w.freeze ⟨b, five.size, none⟩ 1) b (b + 1) := by
    unfold World.freeze
    rw [if_neg (by decide)]
    exact ⟨rfl, rfl, rfl, by simp, fun k hk ho => by simp only [Array.getElem?_modify]; rw [if_neg (by omega)]⟩
  have hcells : ∀ a, (w.freeze ⟨b, five.size, none⟩ 1).cell? a = w.cell? a := by
    intro a
    unfold World.freeze
    rw [if_neg (by decide)]
    unfold World.cell?
    simp only [Array.getElem?_modify]
    by_cases e : b = a.block
    · rw [if_pos e, ← e, hb]; rfl
    · rw [if_neg e]
  refine ⟨w.freeze ⟨b, five.size, none⟩ 1, ?_, ?_, hcg, ?_, ?_⟩
  · simp [convert, run_underlying Try.underlying22, run_underlying Try.underlying5, markStringish, hsh]
  · obtain ⟨A, n, c, a, s, h1, h2, h3, h4, h5, h6⟩ := h
    refine ⟨A, n, c, a, s, (hcg.block g (lt_of_block h1) (by omega)).trans h1, h2, h3, h4, h5, fun hn => ?_⟩
    obtain ⟨b', off, e, hb', hc⟩ := h6 hn
    exact ⟨b', off, e, hb', fun j hj => by rw [hcells]; exact hc j hj⟩
  · exact hcells
  · unfold World.freeze; rw [if_neg (by decide)]; simp

set_option maxHeartbeats 1600000 in
/-- spec.DrawReadCard -/
theorem DrawReadCard (A : Option Addr) (n c : Nat) (w : World) (h : Bytes w A n) (hn : n ≤ 1048576) :
    Calls Try.prog 21 #[.slice A n c] w (RetStr w) := by
  go_enter Try.func21, Try.ntmps21
  go_wp2_with fail
  refine (l01From A n c _ h hn).mono ?_
  rintro e w1 ⟨rfl, s1, b1⟩
  go_wp2_with fail
  refine (l01Next _ 52 _ s1 (by omega)).mono ?_
  rintro e w2 ⟨r2, rfl, ⟨r20, r21⟩, s2, c2⟩
  have r22 := r21 (by omega)
  go_wp2_with fail
  refine (spec_CardText _ _).mono ?_
  rintro e w3 ⟨rfl, _, c3⟩
  rw [cardTextV_yes (show 0 ≤ r2 ∧ r2 ≤ 51 by omega)]
  have hsz := textV_size r2
  have hs2 : (textV r2).size ≤ 2 := by omega
  have hs3 : 2 ≤ (textV r2).size := by omega
  have i0 : (0 : Int) < ((textV r2).size : Int) := by omega
  have i1 : (1 : Int) < ((textV r2).size : Int) := by omega
  have i2 : 1 < (textV r2).size := by omega
  have i3 : 0 < (textV r2).size := by omega
  have s3 := s2.still c3
  have b3 := Chg.above (below_draw b1 c2 (Nat.le_refl _) s1.lt) c3 (Nat.le_of_lt s2.lt) (.inr rfl)
  clear hsz
  generalize textV r2 = t at hs2 hs3 i0 i1 i2 i3
  go_wp2_with fail
  refine (l01Next _ 10 _ s3 (by omega)).mono ?_
  rintro e w4 ⟨r4, rfl, ⟨r40, r41⟩, s4, c4⟩
  have b4 := below_draw b3 c4 (Nat.le_refl _) s3.lt
  have hg := s4.lt
  clear s1 b1 s2 c2 c3 s3 b3 c4 r20 r21 r22 r41
  by_cases q0 : r4 = 0
  · subst q0
    go_wp2_with fail
    go_ret
    exact ⟨t.extract 0 1, rfl, by rw [ByteArray.size_extract]; omega, b4⟩
  have t0 : (r4 == 0) = false := by simpa using q0
  by_cases q1 : r4 = 1
  · subst q1
    go_wp2_with fail
    go_ret
    exact ⟨t ++ ⟨#[32]⟩, rfl, by rw [ByteArray.size_append]; show _ + 1 ≤ _; omega, b4⟩
  have t1 : (r4 == 1) = false := by simpa using q1
  by_cases q2 : r4 = 2
  · subst q2
    have kc := conv2 w4
    go_wp2_with fail
    go_region
    all_goals
      go_wp2
      go_ret
      exact ⟨strOfNums _, rfl, by rw [strOfNums_size]; simp, (b4.alloc (by omega) _).drew⟩
  have t2 : (r4 == 2) = false := by simpa using q2
  by_cases q3 : r4 = 3
  · subst q3
    have kc := conv_const
    have kd := conv2p
    have ke := conv2q
    go_wp2_with fail
    have kp := fun (w : World) (C : Array Value) (n c : Nat) => Lib.run_convert_bytes_const (P := Try.prog) w 22 5 C n c Try.underlying22 Try.underlying5
    have HN1 : Hid (Calls Try.prog 49 #[.pointer (some ⟨w.heap.size, 0, none⟩), .int .i64 5] (w4.alloc (.cells #[.int .u8 49, .int .u8 116, .int .u8 48, .int .u8 120, .int .u8 97] 5 (5, 6))).drew (Next5 w4 w.heap.size (5, 6))) := next_const s4 (5, 6)
    have HN2 : Hid (Calls Try.prog 49 #[.pointer (some ⟨w.heap.size, 0, none⟩), .int .i64 5] (w4.alloc (.cells #[.int .u8 49, .int .u8 116, .int .u8 48, .int .u8 120, .int .u8 97] 5)).drew (Next5 w4 w.heap.size (0, 0))) := next_const s4 (0, 0)
    have HN3 := Lib.hid (l01Next w.heap.size 5 w4.drew (s4.still (Chg.drewN _ 1 0 0)) (by omega))
    go_region_with (go_at_call 49; first | (go_fit HN1.out; rintro e w5 ⟨r5, z, rfl, r50, r51, z0, z1, hz, s5, c5, _, _⟩) | (go_fit HN2.out; rintro e w5 ⟨r5, z, rfl, r50, r51, z0, z1, hz, s5, c5, hb5, hl5⟩; obtain ⟨w6, hrun, s6, c6, hce, hsz⟩ := mark_const hb5 s5 (by omega); rw [← hce] at hz; clear hce hsz) | (go_fit HN3.out; rintro e w5 ⟨r5, rfl, ⟨r50, r51⟩, s5, c5⟩; have r52 := r51 (by omega); obtain ⟨z, z0, z1, hz⟩ := five_at r5 r50 r52; have hy : (#[.int .u8 49, .int .u8 116, .int .u8 48, .int .u8 120, .int .u8 97] : Array Value)[r5.toNat]? = some (.int .u8 z) := hz; have hx : ([.int .u8 49, .int .u8 116, .int .u8 48, .int .u8 120, .int .u8 97] : List Value)[r5.toNat]? = some (.int .u8 z) := (by simpa using hy); have hv : ∀ fr, (w5.alloc (.cells #[.int .u8 49, .int .u8 116, .int .u8 48, .int .u8 120, .int .u8 97] 5 fr)).cell? ⟨w5.heap.size, r5.toNat, none⟩ = some (.int .u8 z) := fun fr => (World.cell?_alloc_mark w5 _ _ fr _).trans hz))
    all_goals
      go_wp2
      go_ret
      refine ⟨strOfNums _, rfl, by rw [strOfNums_size]; simp, ?_⟩
      first | exact (below_draw b4 c5 (Nat.le_refl _) hg).alloc (Nat.le_of_lt s5.lt) _ | exact (Chg.above (below_draw b4 c5 (Nat.le_refl _) hg) c6 (Nat.le_of_lt s5.lt) (.inl (Nat.le_of_lt hg))).alloc (Nat.le_of_lt s6.lt) _ | exact ((below_draw b4.drew c5 (Nat.le_refl _) hg).alloc (Nat.le_of_lt s5.lt) _).alloc (by have := s5.lt; simp; omega) _
  have t3 : (r4 == 3) = false := by simpa using q3
  go_wp2_with fail
  go_ret
  exact ⟨t, rfl, by omega, b4⟩

end Go.Proofs.Ytboagmdpefamgaa.Lib1
