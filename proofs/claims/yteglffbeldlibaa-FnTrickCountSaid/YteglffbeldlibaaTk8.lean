/- Chapter 8, the law FnTrickCount: the lists and w5Sum. -/
import Derived.Test.YteglffbeldlibaaPw8
namespace Go.Proofs.Yteglffbeldlibaa.Lib1
open Go.RowKit
set_option maxRecDepth 100000

/-- The sum of the first k numbers. -/
def sumK8 (zs : List Int) : Nat → Int
  | 0 => 0
  | k + 1 => sumK8 zs k + zs.getD k 0
theorem sumK8_rng {zs : List Int} {B : Int} (hB : 0 ≤ B) (h : ∀ j, j < zs.length → 0 ≤ zs.getD j 0 ∧ zs.getD j 0 ≤ B) : ∀ k, k ≤ zs.length → 0 ≤ sumK8 zs k ∧ sumK8 zs k ≤ B * k
  | 0, _ => by simp [sumK8]
  | k + 1, hk => by
    have ih := sumK8_rng hB h k (by omega)
    have := h k (by omega)
    rw [sumK8, show B * ((k + 1 : Nat) : Int) = B * (k : Int) + B by rw [Int.natCast_add]; simp [Int.mul_add]]
    omega
set_option maxHeartbeats 1600000 in
/-- laws.w5Sum -/
theorem w5Sum (A : Option Addr) (n c : Nat) (zs : List Int) (w : World) (h : Rd w 0 w.heap.size A n zs) (hn : n ≤ 1000) (hz : ∀ j, j < n → 0 ≤ zs.getD j 0 ∧ zs.getD j 0 ≤ 1000) :
    Calls Try.prog 35 #[.slice A n c] w fun e w' => e = .returned (.int .i64 (sumK8 zs n)) ∧ Chg w w' 0 0 := by
  have hl := h.1
  have hr : Hid (∀ k, k ≤ n → 0 ≤ sumK8 zs k ∧ sumK8 zs k ≤ 1000 * k) := Lib.hid fun k hk => sumK8_rng (by omega) (fun j hj => hz j (by omega)) k (by omega)
  go_enter Try.func35, Try.ntmps35
  go_wp2
  go_loopw [3, 4] (fun s i wr => ∃ (j : Nat), j ≤ n ∧ i = .int .i64 j ∧ s = .int .i64 (sumK8 zs j) ∧ Hid (Chg w wr 0 0)) (fun _ i _ => n - (intOf i).toNat)
  case atStart => exact ⟨0, Nat.zero_le _, rfl, rfl, Lib.hid (Chg.refl _ _ _)⟩
  case round =>
    obtain ⟨j, hj, rfl, rfl, hch⟩ := hrel
    by_cases hlt : j < n
    · obtain ⟨b, off, rfl, _, _, hc⟩ := (h.still hch.out).2 (by omega)
      have q1 := hc j hlt
      have hjl : (j : Int) < (n : Int) := by omega
      have hch2 := Lib.hid (hch.out.trans (Chg.drewN wr 1 0 0))
      have e1 : sumK8 zs (j + 1) = sumK8 zs j + zs.getD j 0 := rfl
      have r1 := hr.out (j + 1) (by omega)
      rw [e1] at r1
      have HE := Lib.hid e1
      clear hc e1
      generalize zs.getD j 0 = z at q1 HE r1
      obtain ⟨S, hS⟩ : ∃ S, S = sumK8 zs j := ⟨_, rfl⟩
      rw [← hS] at HE r1 ⊢
      have wS : IntKind.i64.wrap (S + z) = S + z := IntWalk.i64_in _ (by omega)
      clear hS
      go_wp2
      go_roundw
      all_goals first
        | exact ⟨j + 1, by omega, by go_num, by rw [HE.out], hch⟩
        | exact ⟨j + 1, by omega, by go_num, by rw [HE.out], hch2⟩
        | (simp [intOf]; omega)
    · obtain rfl : j = n := by omega
      go_wp2
      go_ret
      exact ⟨rfl, hch.out⟩
/-- The tricks of East and West, out of the leaders. -/
def eastK8 (st ld : Int) (cs : List Int) : Nat → Int
  | 0 => 0
  | j + 1 => eastK8 st ld cs j + leadT st ld cs (j + 1) % 2
theorem cnt_east8 {st ld : Int} (h : 0 ≤ ld ∧ ld ≤ 3) (cs : List Int) : ∀ m, cntS st ld cs 1 m = eastK8 st ld cs m ∧ cntS st ld cs 0 m + cntS st ld cs 1 m = (m : Int)
  | 0 => by simp [cntS, eastK8]
  | j + 1 => by
    obtain ⟨h1, h2⟩ := cnt_east8 h cs j
    have hr := leadT_rng (st := st) h cs (j + 1)
    have hm : leadT st ld cs (j + 1) % 2 = 0 ∨ leadT st ld cs (j + 1) % 2 = 1 := by omega
    rw [cntS, cntS, eastK8, h1]
    rw [h1] at h2
    rcases hm with e | e <;> rw [e] <;> simp <;> omega
end Go.Proofs.Yteglffbeldlibaa.Lib1
