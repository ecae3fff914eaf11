/- Chapter 8, lists of the program's plays: what is left when a card is added, how many cards each seat has left. No function of the program. -/
import Derived.Test.YteglffbeldlibaaPlayD8
namespace Go.Proofs.Yteglffbeldlibaa.Lib1
open Go.RowKit
set_option maxRecDepth 100000

theorem leftL_snoc (hs cs : List Int) (x : Int) : leftL hs (cs ++ [x]) = (leftL hs cs).filter fun y => !(y == x) := by
  unfold leftL
  rw [List.filter_filter]
  congr 1
  funext y
  by_cases h1 : y ∈ cs <;> by_cases h2 : y = x <;> simp [hasB, h1, h2]
theorem leftL_miss {hs : List Int} (cs : List Int) {x : Int} (h : x ∉ hs) : leftL hs (cs ++ [x]) = leftL hs cs := by
  rw [leftL_snoc]
  refine List.filter_eq_self.2 fun y hy => ?_
  have : y ≠ x := fun e => h (e ▸ (List.mem_filter.1 hy).1)
  simp [this]
theorem deal_apart {zss : List (List Int)} (h : dealB zss = true) {s t : Nat} (hs : s < 4) (ht : t < 4) (hne : s ≠ t) {x : Int} (hx : x ∈ zss.getD s []) : x ∉ zss.getD t [] := by
  obtain ⟨h4, _, hn⟩ := (deal_iff zss).1 h
  have hp := List.pairwise_iff_getElem.1 (List.pairwise_flatten.1 hn).2
  rw [getD_row (by omega)] at hx ⊢
  intro hx2
  rcases Nat.lt_or_ge s t with q | q
  · exact hp s t (by omega) (by omega) q _ hx _ hx2 rfl
  · exact hp t s (by omega) (by omega) (by omega) _ hx2 _ hx rfl
theorem leftTo_add {zss : List (List Int)} (h : dealB zss = true) {s : Nat} (hs : s < 4) (cs : List Int) {x : Int} (hx : x ∈ zss.getD s []) :
    (leftTo zss cs 4).set s ((leftL (zss.getD s []) cs).filter fun y => !(y == x)) = leftTo zss (cs ++ [x]) 4 := by
  rw [← leftL_snoc]
  refine List.ext_getElem (by simp [leftTo]) fun j h1 h2 => ?_
  have hj : j < 4 := by simpa [leftTo] using h2
  rw [List.getElem_set]
  by_cases e : s = j
  · subst e
    rw [if_pos rfl]
    simp [leftTo]
  · rw [if_neg e]
    have := leftL_miss cs (deal_apart h hs hj e hx)
    simp only [leftTo, List.getElem_map, List.getElem_range]
    exact this.symm
theorem leftTo_nil {zss : List (List Int)} (h : zss.length = 4) : leftTo zss [] 4 = zss := by
  refine List.ext_getElem (by simp [leftTo, h]) fun j h1 h2 => ?_
  simp only [leftTo, List.getElem_map, List.getElem_range]
  rw [getD_row h2]
  unfold leftL
  refine List.filter_eq_self.2 fun y _ => ?_
  simp [hasB]
theorem turn_take {st ld : Int} {cs : List Int} {k : Nat} (hk : k ≤ cs.length) : turnL st ld (cs.take k) = (leadT st ld cs (k / 4) + ((k % 4 : Nat) : Int)) % 4 := by
  unfold turnL
  rw [List.length_take, Nat.min_eq_left hk]
  have e : leadT st ld (cs.take k) (k / 4) = leadT st ld cs (k / 4) := leadT_congr _ fun i hi => by
    have : i < k := by omega
    simp [List.getD, this]
  rw [e]
theorem legL_sub {zss : List (List Int)} {st ld : Int} {cs : List Int} {x : Int} (h : hasB (legL zss st ld cs) x = true) : x ∈ leftL (zss.getD (turnL st ld cs).toNat []) cs := by
  have h := (hasB_iff _ _).1 h
  unfold legL at h
  dsimp only at h
  split at h
  · exact h
  · split at h
    · exact suitF_sub _ _ _ h
    · exact h
theorem row_nodup {zss : List (List Int)} (h : dealB zss = true) {s : Nat} (hs : s < 4) : (zss.getD s []).Nodup :=
  pair_nodup8 ((hand_iff _).1 (((deal_iff zss).1 h).2.1 s hs).1).2.1
where pair_nodup8 {zs : List Int} (h : zs.Pairwise (· < ·)) : zs.Nodup := h.imp fun h => Int.ne_of_lt h
theorem filter_one {l : List Int} (hn : l.Nodup) {x : Int} (hx : x ∈ l) : (l.filter fun y => !(y == x)).length + 1 = l.length := by
  have e : (l.filter fun y => !(y == x)) = l.erase x := by
    rw [hn.erase_eq_filter]
    rfl
  have h0 : 0 < l.length := List.length_pos_of_mem hx
  rw [e, List.length_erase_of_mem hx]
  omega
/-- How many cards each seat has left. -/
theorem left_count {zss : List (List Int)} {st ld : Int} {cs : List Int} (hd : dealB zss = true) (hl : 0 ≤ ld ∧ ld ≤ 3) : ∀ {k : Nat}, k ≤ cs.length → playTo zss st ld cs k = true → ∀ s : Nat, s < 4 →
    (leftL (zss.getD s []) (cs.take k)).length + k / 4 + (if (s + 4 - (leadT st ld cs (k / 4)).toNat) % 4 < k % 4 then 1 else 0) = (zss.getD 0 []).length
  | 0, _, _, s, hs => by
    have e : leftL (zss.getD s []) (cs.take 0) = zss.getD s [] := by
      unfold leftL
      exact List.filter_eq_self.2 fun y _ => by simp [hasB]
    rw [e, (((deal_iff zss).1 hd).2.1 s hs).2]
    simp
  | k + 1, hk, hp, s, hs => by
    simp only [playTo, Bool.and_eq_true] at hp
    have ih := left_count hd hl (k := k) (by omega) hp.1 s hs
    have hx := legL_sub hp.2
    have hr := leadT_rng (st := st) hl cs (k / 4)
    have et := turn_take (st := st) (ld := ld) (cs := cs) (k := k) (by omega)
    have htk : cs.take (k + 1) = cs.take k ++ [cs.getD k 0] := by rw [List.take_succ_eq_append_getElem (by omega), getD_at _ _ (by omega)]
    generalize cs.getD k 0 = x at hx htk
    obtain ⟨L, hL⟩ : ∃ L : Nat, leadT st ld cs (k / 4) = (L : Int) := ⟨_, (Int.toNat_of_nonneg hr.1).symm⟩
    obtain ⟨t, ht⟩ : ∃ t : Nat, turnL st ld (cs.take k) = (t : Int) := ⟨_, (Int.toNat_of_nonneg (turnL_rng st ld _).1).symm⟩
    rw [ht, hL] at et
    rw [ht, Int.toNat_natCast] at hx
    rw [hL, Int.toNat_natCast] at ih
    have ht4 : t < 4 := by omega
    have hxm := (List.mem_filter.1 hx).1
    have hq : (k + 1) % 4 = 0 ∧ (k + 1) / 4 = k / 4 + 1 ∧ k % 4 = 3 ∨ (k + 1) % 4 = k % 4 + 1 ∧ (k + 1) / 4 = k / 4 ∧ k % 4 < 3 := by omega
    have hlen : (leftL (zss.getD s []) (cs.take (k + 1))).length + (if s = t then 1 else 0) = (leftL (zss.getD s []) (cs.take k)).length := by
      rw [htk]
      by_cases e : s = t
      · subst e
        rw [if_pos rfl, leftL_snoc]
        exact filter_one ((row_nodup hd hs).sublist List.filter_sublist) hx
      · rw [if_neg e, leftL_miss _ (deal_apart hd ht4 hs (fun e' => e e'.symm) hxm)]
        rfl
    rcases hq with ⟨q1, q2, q3⟩ | ⟨q1, q2, q3⟩
    · rw [q1, q2]
      simp only [Nat.not_lt_zero, if_false, Nat.add_zero]
      by_cases e : s = t
      · rw [if_pos e] at hlen
        rw [if_neg (by omega)] at ih
        omega
      · rw [if_neg e] at hlen
        rw [if_pos (by omega)] at ih
        omega
    · rw [q1, q2, hL, Int.toNat_natCast]
      by_cases e : s = t
      · rw [if_pos e] at hlen
        rw [if_neg (by omega)] at ih
        rw [if_pos (by omega)]
        omega
      · rw [if_neg e] at hlen
        by_cases e2 : (s + 4 - L) % 4 < k % 4
        · rw [if_pos e2] at ih
          rw [if_pos (by omega)]
          omega
        · rw [if_neg e2] at ih
          rw [if_neg (by omega)]
          omega
theorem play_parts {zss : List (List Int)} {st ld : Int} {cs : List Int} (h : playB zss st ld cs = true) : dealB zss = true ∧ plainB st ld cs = true ∧ playTo zss st ld cs cs.length = true := by
  unfold playB at h
  simp only [Bool.and_eq_true] at h
  exact ⟨h.1.1, h.1.2, h.2⟩
/-- The play is finished where the seat whose turn it is has no card left. -/
theorem fin_iff {zss : List (List Int)} {st ld : Int} {cs : List Int} (h : playB zss st ld cs = true) : ((leftL (zss.getD (turnL st ld cs).toNat []) cs).length = 0 ↔ doneB zss cs = true) := by
  obtain ⟨hd, hp, ht⟩ := play_parts h
  have hl := (plain_parts hp).2.2.1
  have hc := left_count (st := st) hd hl (Nat.le_refl cs.length) ht
  rw [List.take_length] at hc
  have hr := leadT_rng (st := st) hl cs (cs.length / 4)
  obtain ⟨L, hL⟩ : ∃ L : Nat, leadT st ld cs (cs.length / 4) = (L : Int) := ⟨_, (Int.toNat_of_nonneg hr.1).symm⟩
  obtain ⟨t, hT⟩ : ∃ t : Nat, turnL st ld cs = (t : Int) := ⟨_, (Int.toNat_of_nonneg (turnL_rng st ld _).1).symm⟩
  have et : (t : Int) = ((L : Int) + ((cs.length % 4 : Nat) : Int)) % 4 := by rw [← hT, ← hL]; rfl
  rw [hT, Int.toNat_natCast]
  rw [hL, Int.toNat_natCast] at hc
  have ct := hc t (by omega)
  have cL := hc L (by omega)
  unfold doneB
  rw [decide_eq_true_iff]
  rw [if_neg (by omega)] at ct
  by_cases q : cs.length % 4 = 0
  · rw [if_neg (by omega)] at cL
    omega
  · rw [if_pos (by omega)] at cL
    omega
theorem legV_play {zss : List (List Int)} {st ld : Int} {cs : List Int} (h : playB zss st ld cs = true) : legV zss st ld cs = legL zss st ld cs := by
  unfold legV
  rw [h, Bool.true_and]
  cases hd : doneB zss cs
  · rfl
  · have e := List.eq_nil_of_length_eq_zero ((fin_iff h).2 hd)
    unfold legL
    rw [e]
    simp [suitF]
theorem nodup_len : ∀ (m : Nat) {l : List Int}, l.Nodup → (∀ z ∈ l, 0 ≤ z ∧ z < m) → l.length ≤ m
  | 0, l, _, h => by
    cases l with
    | nil => simp
    | cons z _ => have := h z (by simp); omega
  | m + 1, l, hn, h => by
    have h1 := nodup_len m (l := l.erase (m : Int)) (hn.erase _) fun z hz => by
      rw [hn.mem_erase_iff] at hz
      have := h z hz.2
      have := hz.1
      omega
    by_cases e : (m : Int) ∈ l
    · rw [List.length_erase_of_mem e] at h1; omega
    · rw [List.erase_of_not_mem e] at h1; omega
theorem diff_nodup {cs : List Int} : ∀ {n : Nat}, n ≤ cs.length → diffTo cs n = true → (cs.take n).Nodup
  | 0, _, _ => by simp
  | n + 1, hn, h => by
    simp only [diffTo, Bool.and_eq_true] at h
    rw [List.take_succ_eq_append_getElem (by omega)]
    refine nodup_snoc (diff_nodup (by omega) h.1) ?_
    have := h.2.2
    rw [getD_at _ _ (by omega)] at this
    simpa [hasB] using this
theorem diff_len {cs : List Int} (h : diffTo cs cs.length = true) : cs.length ≤ 52 := by
  have hn := diff_nodup (Nat.le_refl _) h
  rw [List.take_length] at hn
  refine nodup_len 52 hn fun z hz => ?_
  obtain ⟨i, hi, rfl⟩ := List.getElem_of_mem hz
  have := diff_card h hi
  rw [getD_at _ _ hi] at this
  omega
theorem plain_is (st ld : Int) (cs : List Int) : plainB st ld cs = (inB st 0 4 && (inB ld 0 3 && diffTo cs cs.length)) := by
  unfold plainB
  cases h : diffTo cs cs.length
  · simp
  · have := diff_len h
    simp [this]
theorem lead_snoc {st ld : Int} {us : List Int} (x : Int) {j : Nat} (h : 4 * j ≤ us.length) : leadT st ld (us ++ [x]) j = leadT st ld us j :=
  leadT_congr _ fun i hi => by simp [List.getD, List.getElem?_append_left (show i < us.length by omega)]
theorem take_one {cs : List Int} {k : Nat} (h : k < cs.length) : cs.take (k + 1) = cs.take k ++ [cs.getD k 0] := by
  rw [List.take_succ_eq_append_getElem h, getD_at _ _ h]
end Go.Proofs.Yteglffbeldlibaa.Lib1
