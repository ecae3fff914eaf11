/- Chapter 4, lists alone: binomial coefficients, the number of a subset and the subset of a number, what is left of a list; what the functions of the chapter return. -/
import Derived.Test.YtdfmkikngifjmaaBase2
import Derived.Test.YtdfmkikngifjmaaL03
namespace Go.Proofs.Ytdfmkikngifjmaa.Lib1
set_option maxRecDepth 100000
section
/-- The binomial coefficients. -/
def ch : Nat → Nat → Nat
  | _, 0 => 1
  | 0, _ + 1 => 0
  | n + 1, k + 1 => ch n k + ch n (k + 1)
theorem ch_zero (n : Nat) : ch n 0 = 1 := by cases n <;> rfl
theorem ch_pascal (n k : Nat) : ch (n + 1) (k + 1) = ch n k + ch n (k + 1) := rfl
theorem ch_gt : ∀ (n k : Nat), n < k → ch n k = 0
  | _, 0, h => by omega
  | 0, k + 1, _ => rfl
  | n + 1, k + 1, h => by rw [ch_pascal, ch_gt n k (by omega), ch_gt n (k + 1) (by omega)]
theorem ch_self : ∀ n, ch n n = 1
  | 0 => rfl
  | n + 1 => by rw [ch_pascal, ch_self n, ch_gt n (n + 1) (by omega)]
theorem ch_pow : ∀ (n k : Nat), ch n k ≤ 2 ^ n
  | n, 0 => by rw [ch_zero]; exact Nat.one_le_two_pow
  | 0, k + 1 => by simp [ch]
  | n + 1, k + 1 => by
    have := ch_pow n k; have := ch_pow n (k + 1)
    rw [ch_pascal, Nat.pow_succ]; omega
theorem ch_le {n : Nat} (k : Nat) (h : n ≤ 52) : ch n k ≤ 4503599627370496 := by
  have h1 := ch_pow n k
  have h2 : 2 ^ n ≤ 2 ^ 52 := Nat.pow_le_pow_right (by omega) h
  have h3 : (2 : Nat) ^ 52 = 4503599627370496 := by decide
  omega
theorem ch_pos : ∀ (n k : Nat), k ≤ n → 0 < ch n k
  | n, 0, _ => by rw [ch_zero]; omega
  | 0, k + 1, h => by omega
  | n + 1, k + 1, h => by have := ch_pos n k (by omega); rw [ch_pascal]; omega
/-- (n + 1) C(n, k) = (k + 1) C(n + 1, k + 1) -/
theorem ch_up : ∀ (n k : Nat), (n + 1) * ch n k = ch (n + 1) (k + 1) * (k + 1)
  | 0, 0 => rfl
  | 0, k + 1 => by simp [ch]
  | n + 1, 0 => by
    have h := ch_up n 0
    rw [ch_zero] at h ⊢
    rw [ch_pascal, ch_zero]
    omega
  | n + 1, k + 1 => by
    have h1 := ch_up n k
    have h2 := ch_up n (k + 1)
    have e1 := ch_pascal n k
    have e2 := ch_pascal (n + 1) (k + 1)
    have e3 : (n + 1 + 1) * ch (n + 1) (k + 1) = (n + 1) * ch n k + (n + 1) * ch n (k + 1) + ch (n + 1) (k + 1) := by
      rw [Nat.succ_mul, e1, Nat.mul_add]
    rw [e3, h1, h2, e2]
    rw [Nat.add_mul]
    generalize ch (n + 1) (k + 1) = x
    generalize ch (n + 1) (k + 1 + 1) = y
    rw [Nat.mul_succ x (k + 1)]
    omega
/-- (k + 1) C(n, k + 1) = (n - k) C(n, k) -/
theorem ch_next (n k : Nat) (h : k ≤ n) : ch n k * (n - k) = ch n (k + 1) * (k + 1) := by
  have h1 := ch_up n k
  rw [ch_pascal, Nat.add_mul (ch n k)] at h1
  have h2 : (n + 1) * ch n k = ch n k * (k + 1) + ch n k * (n - k) := by
    rw [← Nat.mul_add, Nat.mul_comm]; congr 1; omega
  omega
theorem ch_symm : ∀ (n k : Nat), k ≤ n → ch n (n - k) = ch n k
  | 0, 0, _ => rfl
  | n + 1, 0, _ => by rw [Nat.sub_zero, ch_self, ch_zero]
  | n + 1, k + 1, h => by
    rcases Nat.lt_or_ge k n with hk | hk
    · obtain ⟨m, hm⟩ : ∃ m, n - k = m + 1 := ⟨n - k - 1, by omega⟩
      have e : n + 1 - (k + 1) = m + 1 := by omega
      have h1 := ch_symm n k (by omega)
      have h2 := ch_symm n (k + 1) (by omega)
      rw [e, ch_pascal, ch_pascal]
      rw [hm] at h1
      have e2 : n - (k + 1) = m := by omega
      rw [e2] at h2
      omega
    · have : k = n := by omega
      subst this
      rw [Nat.sub_self, ch_zero, ch_self]

/-! ### The number of a subset -/
def rankN : List Int → List Int → Nat
  | _, [] => 0
  | [], _ :: _ => 0
  | x :: l, y :: s => if x = y then rankN l s else ch l.length s.length + rankN l (y :: s)
def unrankN : List Int → Nat → Nat → List Int
  | [], _, _ => []
  | _ :: _, 0, _ => []
  | x :: l, k + 1, m => if m < ch l.length k then x :: unrankN l k m else unrankN l (k + 1) (m - ch l.length k)
theorem rankN_nil (l : List Int) : rankN l [] = 0 := by cases l <;> rfl
theorem unrankN_zero (l : List Int) (m : Nat) : unrankN l 0 m = [] := by cases l <;> rfl
theorem rankN_lt : ∀ (l s : List Int), s.Sublist l → rankN l s < ch l.length s.length
  | l, [], _ => by rw [rankN_nil]; simp [ch_zero]
  | [], y :: s, h => by cases h
  | x :: l, y :: s, h => by
    unfold rankN
    by_cases e : x = y
    · subst e
      rw [if_pos rfl]
      have hs : s.Sublist l := by simpa using h
      have := rankN_lt l s hs
      simp only [List.length_cons]
      rw [ch_pascal]; omega
    · rw [if_neg e]
      have hs : (y :: s).Sublist l := by
        cases h with
        | cons _ h => exact h
        | cons_cons _ h => exact absurd rfl e
      have := rankN_lt l (y :: s) hs
      simp only [List.length_cons] at this ⊢
      rw [ch_pascal]; omega
theorem unrank_rank : ∀ (l s : List Int), s.Sublist l → unrankN l s.length (rankN l s) = s
  | l, [], _ => by simp [unrankN_zero]
  | [], y :: s, h => by cases h
  | x :: l, y :: s, h => by
    unfold rankN
    by_cases e : x = y
    · subst e
      rw [if_pos rfl]
      have hs : s.Sublist l := by simpa using h
      have h1 := rankN_lt l s hs
      rw [List.length_cons]
      unfold unrankN
      rw [if_pos h1, unrank_rank l s hs]
    · rw [if_neg e]
      have hs : (y :: s).Sublist l := by
        cases h with
        | cons _ h => exact h
        | cons_cons _ h => exact absurd rfl e
      have h1 := unrank_rank l (y :: s) hs
      rw [List.length_cons] at h1 ⊢
      unfold unrankN
      rw [if_neg (by omega), Nat.add_sub_cancel_left, h1]
theorem unrank_length : ∀ (l : List Int) (k m : Nat), m < ch l.length k → (unrankN l k m).length = k
  | [], 0, _, _ => rfl
  | [], k + 1, m, h => by simp [ch] at h
  | _ :: _, 0, _, _ => rfl
  | x :: l, k + 1, m, h => by
    unfold unrankN
    by_cases c : m < ch l.length k
    · rw [if_pos c, List.length_cons, unrank_length l k m c]
    · rw [if_neg c]
      rw [List.length_cons, ch_pascal] at h
      exact unrank_length l (k + 1) _ (by omega)
theorem unrank_sub : ∀ (l : List Int) (k m : Nat), (unrankN l k m).Sublist l
  | [], _, _ => by simp [unrankN]
  | _ :: _, 0, _ => by simp [unrankN]
  | x :: l, k + 1, m => by
    unfold unrankN
    by_cases c : m < ch l.length k
    · rw [if_pos c]; exact (unrank_sub l k m).cons_cons x
    · rw [if_neg c]; exact (unrank_sub l (k + 1) _).cons x
theorem rank_unrank : ∀ (l : List Int) (k m : Nat), l.Nodup → m < ch l.length k → rankN l (unrankN l k m) = m
  | [], 0, m, _, h => by simp [ch] at h; subst h; rfl
  | [], k + 1, m, _, h => by simp [ch] at h
  | x :: l, 0, m, _, h => by simp [ch] at h; subst h; rfl
  | x :: l, k + 1, m, nd, h => by
    have nd' : x ∉ l ∧ l.Nodup := by simpa using nd
    unfold unrankN
    by_cases c : m < ch l.length k
    · rw [if_pos c]; unfold rankN; rw [if_pos rfl]; exact rank_unrank l k m nd'.2 c
    · rw [if_neg c]
      rw [List.length_cons, ch_pascal] at h
      have hm : m - ch l.length k < ch l.length (k + 1) := by omega
      have h1 := rank_unrank l (k + 1) (m - ch l.length k) nd'.2 hm
      have h2 := unrank_length l (k + 1) (m - ch l.length k) hm
      have h3 := unrank_sub l (k + 1) (m - ch l.length k)
      generalize unrankN l (k + 1) (m - ch l.length k) = u at h1 h2 h3
      match u, h1, h2, h3 with
      | y :: s, h1, h2, h3 =>
        have e : x ≠ y := fun e => nd'.1 (e ▸ h3.subset (by simp))
        unfold rankN
        rw [if_neg e, h1]
        have : s.length = k := by simpa using h2
        rw [this]; omega
end
section
/-! ### Card lists -/
theorem rising_lt {zs : List Int} (h : risingB zs = true) : ∀ a b, a < b → b < zs.length → zs.getD a 0 < zs.getD b 0 := by
  have h' : risingTo zs zs.length := by simpa [risingB] using h
  intro a b
  induction b with
  | zero => intro hab; omega
  | succ b ih =>
    intro hab hb
    have h1 := (h' (b + 1) hb).2 (by omega)
    rw [Nat.add_sub_cancel] at h1
    by_cases e : a = b
    · subst e; exact h1
    · exact Int.lt_trans (ih (by omega) (by omega)) h1
theorem rising_pair {zs : List Int} (h : risingB zs = true) : zs.Pairwise (· < ·) := by
  rw [List.pairwise_iff_getElem]
  intro i j hi hj hij
  have := rising_lt h i j hij hj
  rwa [getD_eq hi, getD_eq hj] at this
theorem rising_mem {zs : List Int} (h : risingB zs = true) : ∀ z ∈ zs, 0 ≤ z ∧ z ≤ 51 := by
  have h' : risingTo zs zs.length := by simpa [risingB] using h
  intro z hz
  obtain ⟨j, hj, rfl⟩ := List.getElem_of_mem hz
  have := (h' j hj).1
  rwa [getD_eq hj] at this
theorem rising_of {zs : List Int} (h : zs.Pairwise (· < ·)) (h2 : ∀ z ∈ zs, 0 ≤ z ∧ z ≤ 51) : risingB zs = true := by
  have : risingTo zs zs.length := by
    intro j hj
    refine ⟨?_, fun h0 => ?_⟩
    · rw [getD_eq hj]; exact h2 _ (List.getElem_mem _)
    · rw [getD_eq hj, getD_eq (show j - 1 < zs.length by omega)]
      exact (List.pairwise_iff_getElem.1 h) _ _ _ _ (by omega)
  simpa [risingB] using this
theorem pair_nodup {zs : List Int} (h : zs.Pairwise (· < ·)) : zs.Nodup := h.imp fun h => Int.ne_of_lt h
theorem pair_len : ∀ {zs : List Int} (m : Nat), zs.Pairwise (· < ·) → (∀ z ∈ zs, 0 ≤ z ∧ z < m) → zs.length ≤ m := by
  intro zs m
  induction m generalizing zs with
  | zero =>
    intro _ h
    cases zs with
    | nil => simp
    | cons z _ => have := h z (by simp); omega
  | succ m ih =>
    intro hp h
    rcases List.eq_nil_or_concat zs with rfl | ⟨l, z, rfl⟩
    · simp
    · rw [List.concat_eq_append, List.pairwise_append] at hp
      have := ih hp.1 (fun y hy => by
        have h1 := hp.2.2 y hy z (by simp)
        have h2 := h z (by simp)
        have h3 := h y (by simp [hy])
        omega)
      simp; omega
theorem rising_len {zs : List Int} (h : risingB zs = true) : zs.length ≤ 52 :=
  pair_len 52 (rising_pair h) (fun z hz => by have := rising_mem h z hz; omega)
theorem sub_of_mem : ∀ {s l : List Int}, s.Pairwise (· < ·) → l.Pairwise (· < ·) → (∀ z ∈ s, z ∈ l) → s.Sublist l
  | [], l, _, _, _ => List.nil_sublist _
  | y :: s, [], _, _, h => by have := h y (by simp); simp at this
  | y :: s, x :: l, hs, hl, h => by
    have hs' := List.pairwise_cons.1 hs
    have hl' := List.pairwise_cons.1 hl
    by_cases e : y = x
    · subst e
      refine (sub_of_mem hs'.2 hl'.2 fun z hz => ?_).cons_cons y
      have h1 := hs'.1 z hz
      have h2 := h z (by simp [hz])
      simp only [List.mem_cons] at h2
      rcases h2 with h2 | h2
      · omega
      · exact h2
    · refine (sub_of_mem hs hl'.2 fun z hz => ?_).cons x
      have h2 := h z hz
      simp only [List.mem_cons] at h2
      rcases h2 with h2 | h2
      · subst h2
        simp only [List.mem_cons] at hz
        have hy := h y (by simp)
        simp only [List.mem_cons] at hy
        rcases hz with hz | hz
        · exact absurd hz.symm e
        · have h3 := hs'.1 _ hz
          rcases hy with hy | hy
          · exact absurd hy e
          · have := hl'.1 y hy; omega
      · exact h2
/-- What is left of a list. -/
def restL (l r : List Int) : List Int := l.filter fun z => !hasB r z
theorem restL_le (l r : List Int) : (restL l r).length ≤ l.length := List.length_filter_le _ _
theorem restL_sub (l r : List Int) : (restL l r).Sublist l := List.filter_sublist
theorem restL_rising {l : List Int} (r : List Int) (h : risingB l = true) : risingB (restL l r) = true :=
  rising_of ((rising_pair h).sublist (restL_sub l r)) (fun z hz => rising_mem h z ((restL_sub l r).subset hz))
theorem restL_mem (l r : List Int) (z : Int) : z ∈ restL l r ↔ z ∈ l ∧ z ∉ r := by simp [restL, hasB]
theorem restL_len : ∀ {l s : List Int}, l.Nodup → s.Sublist l → (restL l s).length + s.length = l.length := by
  intro l s hn hs
  induction hs with
  | slnil => simp [restL]
  | @cons s l a h ih =>
    have hn' := List.nodup_cons.1 hn
    have ha : a ∉ s := fun hm => hn'.1 (h.subset hm)
    have := ih hn'.2
    have e : restL (a :: l) s = a :: restL l s := by simp [restL, hasB, ha]
    rw [e]; simp; omega
  | @cons_cons s l a h ih =>
    have hn' := List.nodup_cons.1 hn
    have := ih hn'.2
    have e : restL (a :: l) (a :: s) = restL l s := by
      have e1 : ∀ z ∈ l, (!hasB (a :: s) z) = (!hasB s z) := fun z hz => by
        have : z ≠ a := fun e => hn'.1 (e ▸ hz)
        simp [hasB, this]
      unfold restL
      rw [List.filter_cons, if_neg (by simp [hasB]), List.filter_congr e1]
    rw [e]; simp; omega
theorem restL_nil_iff (s l : List Int) : restL s l = [] ↔ ∀ z ∈ s, z ∈ l := by simp [restL, hasB]
theorem restL_all (s l : List Int) : decide (0 < (restL s l).length) = !s.all (hasB l) := by
  rw [Bool.eq_iff_iff]
  simp [restL, hasB, List.length_pos_iff]
theorem restL_yes {l r : List Int} {k : Nat} (h : k < l.length) (e : hasB r (l.getD k 0) = true) : restL (l.take (k + 1)) r = restL (l.take k) r := by
  unfold restL
  rw [List.take_succ_eq_append_getElem h, List.filter_append]
  rw [getD_eq h] at e
  simp [e]
theorem restL_no {l r : List Int} {k : Nat} (h : k < l.length) (e : hasB r (l.getD k 0) = false) : restL (l.take (k + 1)) r = restL (l.take k) r ++ [l.getD k 0] := by
  unfold restL
  rw [List.take_succ_eq_append_getElem h, List.filter_append, getD_eq h]
  rw [getD_eq h] at e
  simp [e]
/-- All cards. -/
def allL (k : Nat) : List Int := (List.range k).map fun i : Nat => (i : Int)
theorem allL_succ (k : Nat) : allL (k + 1) = allL k ++ [(k : Int)] := by simp [allL, List.range_succ]
theorem allL_length (k : Nat) : (allL k).length = k := by simp [allL]
theorem allL_mem (k : Nat) (z : Int) : z ∈ allL k ↔ 0 ≤ z ∧ z < k := by
  simp only [allL, List.mem_map, List.mem_range]
  constructor
  · rintro ⟨a, h, rfl⟩; omega
  · intro h; exact ⟨z.toNat, by omega, by omega⟩
theorem allL_pair : ∀ k, (allL k).Pairwise (· < ·)
  | 0 => by simp [allL]
  | k + 1 => by
    rw [allL_succ, List.pairwise_append]
    exact ⟨allL_pair k, by simp, fun a ha b hb => by have := (allL_mem k a).1 ha; simp at hb; omega⟩
theorem allL_rising : risingB (allL 52) = true := rising_of (allL_pair 52) (fun z hz => by have := (allL_mem 52 z).1 hz; omega)
end
section
/-! ### What the functions of chapter 4 return -/
theorem drop_at {L : List Int} {j : Nat} (h : j < L.length) : L.drop j = L.getD j 0 :: L.drop (j + 1) := by
  rw [getD_eq h]; exact List.drop_eq_getElem_cons h
theorem rank_hit {L S : List Int} {j k : Nat} (hj : j < L.length) (hk : k < S.length) (e : L.getD j 0 = S.getD k 0) :
    rankN (L.drop j) (S.drop k) = rankN (L.drop (j + 1)) (S.drop (k + 1)) := by
  rw [drop_at hj, drop_at hk, e]; simp [rankN]
theorem rank_pass {L S : List Int} {j k : Nat} (hj : j < L.length) (hk : k < S.length) (e : ¬ L.getD j 0 = S.getD k 0) :
    rankN (L.drop j) (S.drop k) = ch (L.length - 1 - j) (S.length - 1 - k) + rankN (L.drop (j + 1)) (S.drop k) := by
  have e1 : (L.drop (j + 1)).length = L.length - 1 - j := by simp; omega
  have e2 : (S.drop (k + 1)).length = S.length - 1 - k := by simp; omega
  conv => lhs; rw [drop_at hj, drop_at hk, rankN]
  rw [if_neg e, e1, e2, ← drop_at hk]
theorem rank_over {L S : List Int} {j k : Nat} (hk : S.length ≤ k) : rankN (L.drop j) (S.drop k) = 0 := by
  rw [List.drop_of_length_le hk, rankN_nil]
theorem rank_end {L S : List Int} {j k : Nat} (hj : L.length ≤ j) : rankN (L.drop j) (S.drop k) = 0 := by
  rw [List.drop_of_length_le hj]; cases S.drop k <;> rfl
theorem unr_take {L : List Int} {j k m : Nat} (hj : j < L.length) (hm : m < ch (L.length - 1 - j) k) :
    unrankN (L.drop j) (k + 1) m = L.getD j 0 :: unrankN (L.drop (j + 1)) k m := by
  have e1 : (L.drop (j + 1)).length = L.length - 1 - j := by simp; omega
  conv => lhs; rw [drop_at hj, unrankN]
  rw [e1, if_pos hm]
theorem unr_pass {L : List Int} {j k m : Nat} (hj : j < L.length) (hm : ¬ m < ch (L.length - 1 - j) k) :
    unrankN (L.drop j) (k + 1) m = unrankN (L.drop (j + 1)) (k + 1) (m - ch (L.length - 1 - j) k) := by
  have e1 : (L.drop (j + 1)).length = L.length - 1 - j := by simp; omega
  conv => lhs; rw [drop_at hj]
  rw [unrankN, e1, if_neg hm]
theorem unr_end {L : List Int} {j k m : Nat} (hj : L.length ≤ j) : unrankN (L.drop j) k m = [] := by
  rw [List.drop_of_length_le hj]; rfl

/-- The errors and values of RankSubset, UnrankSubset, NextSubset. -/
def rnkC (L S : List Int) : Int := if risingB L = true ∧ risingB S = true then (if S.all (hasB L) = true then 0 else 4) else 1
def rnkV (L S : List Int) : Int := if rnkC L S = 0 then (rankN L S : Int) else 0
def unrC (L : List Int) (k num : Int) : Int := if risingB L = true then (if 0 ≤ k ∧ k ≤ L.length then (if 0 ≤ num ∧ num < (ch L.length k.toNat : Int) then 0 else 4) else 2) else 1
def unrV (L : List Int) (k num : Int) : List Int := if unrC L k num = 0 then unrankN L k.toNat num.toNat else []
def nextC (L S : List Int) : Int := if rnkC L S = 0 then unrC L S.length (rnkV L S + 1) else rnkC L S
def nextV (L S : List Int) : List Int := if rnkC L S = 0 then unrV L S.length (rnkV L S + 1) else []
def handNo (S : List Int) : Int := if handB S = true then (rankN (allL 52) S : Int) else -1
def handOfC (n num : Int) : Int := if 0 ≤ n ∧ n ≤ 13 then unrC (allL 52) n num else 2
def handOfV (n num : Int) : List Int := if 0 ≤ n ∧ n ≤ 13 then unrV (allL 52) n num else []
theorem rnkC_no1 {L S : List Int} (h : risingB L = false) : rnkC L S = 1 := by simp [rnkC, h]
theorem rnkC_no2 {L S : List Int} (h : risingB S = false) : rnkC L S = 1 := by simp [rnkC, h]
theorem rnkC_no3 {L S : List Int} (h1 : risingB L = true) (h2 : risingB S = true) (h : S.all (hasB L) = false) : rnkC L S = 4 := by simp [rnkC, h1, h2, h]
theorem rnkC_yes {L S : List Int} (h1 : risingB L = true) (h2 : risingB S = true) (h : S.all (hasB L) = true) : rnkC L S = 0 := by simp [rnkC, h1, h2, h]
theorem rnkV_no {L S : List Int} {k : Int} (h : rnkC L S = k) (hk : k ≠ 0) : rnkV L S = 0 := by simp [rnkV, h, hk]
theorem rnkV_yes {L S : List Int} (h : rnkC L S = 0) : rnkV L S = (rankN L S : Int) := by simp [rnkV, h]
theorem rnkC_zero {L S : List Int} (h : rnkC L S = 0) : risingB L = true ∧ risingB S = true ∧ S.all (hasB L) = true := by
  unfold rnkC at h
  split at h
  · rename_i h1
    split at h
    · rename_i h2; exact ⟨h1.1, h1.2, h2⟩
    · omega
  · omega
theorem rank_sub {L S : List Int} (h : rnkC L S = 0) : S.Sublist L := by
  obtain ⟨h1, h2, h3⟩ := rnkC_zero h
  exact sub_of_mem (rising_pair h2) (rising_pair h1) (fun z hz => by have := List.all_eq_true.1 h3 z hz; simpa [hasB] using this)
/-- A number is small. -/
theorem rankN_le : ∀ (l s : List Int), l.length ≤ 52 → rankN l s ≤ 2 ^ l.length
  | l, [], _ => by rw [rankN_nil]; exact Nat.zero_le _
  | [], y :: s, _ => by simp [rankN]
  | x :: l, y :: s, h => by
    have h' : l.length ≤ 52 := by simp at h; omega
    have h1 := rankN_le l s h'
    have h2 := rankN_le l (y :: s) h'
    have h3 := ch_pow l.length s.length
    unfold rankN
    rw [List.length_cons, Nat.pow_succ]
    split <;> omega
theorem rankN_small {l s : List Int} (h : l.length ≤ 52) : rankN l s ≤ 4503599627370496 := by
  have h1 := rankN_le l s h
  have h2 : 2 ^ l.length ≤ 2 ^ 52 := Nat.pow_le_pow_right (by omega) h
  have h3 : (2 : Nat) ^ 52 = 4503599627370496 := by decide
  omega
theorem unrC_no1 {L : List Int} {k num : Int} (h : risingB L = false) : unrC L k num = 1 := by simp [unrC, h]
theorem unrC_no2 {L : List Int} {k num : Int} (h : risingB L = true) (hk : ¬ (0 ≤ k ∧ k ≤ L.length)) : unrC L k num = 2 := by
  unfold unrC; rw [if_pos h, if_neg hk]
theorem unrC_no3 {L : List Int} {k num : Int} (h : risingB L = true) (hk : 0 ≤ k ∧ k ≤ L.length) (hn : ¬ (0 ≤ num ∧ num < (ch L.length k.toNat : Int))) : unrC L k num = 4 := by
  unfold unrC; rw [if_pos h, if_pos hk, if_neg hn]
theorem unrC_yes {L : List Int} {k num : Int} (h : risingB L = true) (hk : 0 ≤ k ∧ k ≤ L.length) (hn : 0 ≤ num ∧ num < (ch L.length k.toNat : Int)) : unrC L k num = 0 := by
  unfold unrC; rw [if_pos h, if_pos hk, if_pos hn]
theorem unrV_no {L : List Int} {k num c : Int} (h : unrC L k num = c) (hc : c ≠ 0) : unrV L k num = [] := by simp [unrV, h, hc]
theorem unrV_yes {L : List Int} {k num : Int} (h : unrC L k num = 0) : unrV L k num = unrankN L k.toNat num.toNat := by simp [unrV, h]
theorem unrV_len (L : List Int) (k num : Int) : (unrV L k num).length ≤ L.length := by
  unfold unrV
  split
  · exact (unrank_sub L _ _).length_le
  · simp
theorem unrC_cases (L : List Int) (k num : Int) : unrC L k num = 0 ∨ unrC L k num = 1 ∨ unrC L k num = 2 ∨ unrC L k num = 4 := by
  unfold unrC; repeat' split
  all_goals simp
theorem rnkC_cases (L S : List Int) : rnkC L S = 0 ∨ rnkC L S = 1 ∨ rnkC L S = 4 := by
  unfold rnkC; repeat' split
  all_goals simp
/-- the model's count: C(n, min k (n - k)) -/
theorem ch_min {n k : Nat} (h : k ≤ n) : ch n (min k (n - k)) = ch n k := by
  rcases Nat.le_total k (n - k) with e | e
  · rw [Nat.min_eq_left e]
  · rw [Nat.min_eq_right e, ch_symm n k h]

/-! ### Deals -/
def numsL : List Int → List (List Int) → List Int
  | _, [] => []
  | L, h :: hs => (rankN L h : Int) :: numsL (restL L h) hs
def dealOf (n : Nat) : List Int → List Int → Option (List (List Int))
  | L, [] => some [L]
  | L, m :: ms => if 0 ≤ m ∧ m < (ch L.length n : Int) then (dealOf n (restL L (unrankN L n m.toNat)) ms).map (unrankN L n m.toNat :: ·) else none
/-- The hands, taken out one after the other, come back from their numbers. -/
theorem dealOf_nums (n : Nat) : ∀ (hs : List (List Int)) (L : List Int), L.Nodup → (∀ h ∈ hs, h.length = n) →
    hs.Pairwise (fun a b => ∀ z ∈ b, z ∉ a) → (∀ h ∈ hs, h.Sublist L) →
    dealOf n L (numsL L hs) = some (hs ++ [hs.foldl restL L])
  | [], L, _, _, _, _ => by simp [numsL, dealOf]
  | h :: hs, L, nd, hl, hd, hsub => by
    have h1 := hsub h (by simp)
    have h2 := rankN_lt L h h1
    have h3 := unrank_rank L h h1
    have hn := hl h (by simp)
    rw [hn] at h2 h3
    have hd' := List.pairwise_cons.1 hd
    have ih := dealOf_nums n hs (restL L h) (nd.sublist (restL_sub L h)) (fun x hx => hl x (by simp [hx])) hd'.2 (fun x hx => by
      have e : x = restL x h := by
        unfold restL
        rw [List.filter_eq_self.2]
        intro z hz
        have := hd'.1 x hx z hz
        simp [hasB, this]
      rw [e]
      exact (hsub x (by simp [hx])).filter _)
    unfold numsL dealOf
    have e : ((rankN L h : Nat) : Int).toNat = rankN L h := by omega
    rw [if_pos ⟨by omega, by omega⟩, e, h3, ih]
    simp
end
end Go.Proofs.Ytdfmkikngifjmaa.Lib1
