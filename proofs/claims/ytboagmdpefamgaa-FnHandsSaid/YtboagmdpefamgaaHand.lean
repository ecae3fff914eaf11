/- Contracts of the program's HandWith and HandWithout, and the laws that compare them with the model. -/
import Derived.Test.YtboagmdpefamgaaHandS
import Derived.Test.YtboagmdpefamgaaSearch
import Derived.RegionTactic
import Derived.ChangeAlike
import Derived.Deep.RegionWith
import Derived.Deep.DeepFit
namespace Go.Proofs.Ytboagmdpefamgaa.Lib1
open Go.RowKit

/-! ### Lists -/
theorem hand_lt {zs : List Int} (h : handB zs = true) : ∀ a b, a < b → b < zs.length → zs.getD a 0 < zs.getD b 0 := by
  simp only [handB, risingB, Bool.and_eq_true, decide_eq_true_eq] at h
  intro a b hab hb
  induction b with
  | zero => omega
  | succ b ih =>
    have h1 := (h.2 (b + 1) hb).2 (by omega)
    rw [Nat.add_sub_cancel] at h1
    by_cases e : a = b
    · subst e; exact h1
    · exact Int.lt_trans (ih (by omega) (by omega)) h1
theorem hand_mono {zs : List Int} (h : handB zs = true) : ∀ a b, a ≤ b → b < zs.length → zs.getD a 0 ≤ zs.getD b 0 := by
  intro a b hab hb
  by_cases e : a = b
  · subst e; exact Int.le_refl _
  · exact Int.le_of_lt (hand_lt h a b (by omega) hb)
theorem getD_eq {zs : List Int} {j : Nat} (h : j < zs.length) : zs.getD j 0 = zs[j] := by simp [List.getD, List.getElem?_eq_getElem h]
/-- The found place tells membership. -/
theorem place_has {zs : List Int} {x : Int} {k : Nat} (p : Place zs x k) (hl : ∀ a b, a < b → b < zs.length → zs.getD a 0 < zs.getD b 0) : decide (k < zs.length ∧ zs.getD k 0 = x) = hasB zs x := by
  by_cases h : k < zs.length ∧ zs.getD k 0 = x
  · rw [decide_eq_true h, hasB_yes h.1 h.2]
  · rw [decide_eq_false h]
    refine (hasB_no fun j hj e => ?_).symm
    by_cases hjk : j < k
    · have := p.below j hjk; omega
    · by_cases hjk2 : j = k
      · subst hjk2; exact h ⟨hj, e⟩
      · have h1 := p.above k (Nat.le_refl _) (by omega)
        have h2 := hl k j (by omega) hj
        omega
theorem ins_split (c : Int) : ∀ (l r : List Int), (∀ z ∈ l, ¬ c < z) → (∀ z, r.head? = some z → c < z) → ins c (l ++ r) = l ++ c :: r
  | [], [], _, _ => rfl
  | [], z :: r, _, h => by simp [ins, h z rfl]
  | y :: l, r, h1, h2 => by
    have hy := h1 y (by simp)
    simp only [List.cons_append, ins, if_neg hy, ins_split c l r (fun z hz => h1 z (by simp [hz])) h2]
theorem mem_take_lt {zs : List Int} {k : Nat} {x : Int} (p : Place zs x k) : ∀ z ∈ zs.take k, z < x := by
  intro z hz
  obtain ⟨j, hj, e⟩ := List.getElem_of_mem hz
  have hj2 : j < k ∧ j < zs.length := by simp at hj; omega
  have := p.below j hj2.1
  rw [getD_eq hj2.2] at this
  rw [← e, List.getElem_take]; exact this
theorem place_ins {zs : List Int} {x : Int} {k : Nat} (p : Place zs x k) (hn : ¬ (k < zs.length ∧ zs.getD k 0 = x)) : zs.take k ++ x :: zs.drop k = ins x zs := by
  have h := ins_split x (zs.take k) (zs.drop k) (fun z hz => by have := mem_take_lt p z hz; omega) (fun z hz => by
    rw [List.head?_drop] at hz
    have hk : k < zs.length := by
      rcases Nat.lt_or_ge k zs.length with e | e
      · exact e
      · rw [List.getElem?_eq_none e] at hz; cases hz
    have h1 := p.above k (Nat.le_refl _) hk
    have h2 : zs.getD k 0 = z := by simp [List.getD, hz]
    have h3 : zs.getD k 0 ≠ x := fun e => hn ⟨hk, e⟩
    omega)
  rw [List.take_append_drop] at h
  exact h.symm
theorem place_drop {zs : List Int} {x : Int} {k : Nat} (p : Place zs x k) (hl : ∀ a b, a < b → b < zs.length → zs.getD a 0 < zs.getD b 0) (hk : k < zs.length) (he : zs.getD k 0 = x) : zs.take k ++ zs.drop (k + 1) = dropF x zs := by
  have e : zs = zs.take k ++ (zs.getD k 0 :: zs.drop (k + 1)) := by
    rw [getD_eq hk, List.getElem_cons_drop hk, List.take_append_drop]
  have h1 : dropF x (zs.take k) = zs.take k := by
    unfold dropF
    rw [List.filter_eq_self]
    intro z hz
    have := mem_take_lt p z hz
    have : z ≠ x := by omega
    simp [this]
  have h2 : dropF x (zs.drop (k + 1)) = zs.drop (k + 1) := by
    unfold dropF
    rw [List.filter_eq_self]
    intro z hz
    obtain ⟨j, hj, e⟩ := List.getElem_of_mem hz
    rw [List.getElem_drop] at e
    have hj2 : k + 1 + j < zs.length := by simp at hj; omega
    have h3 := hl k (k + 1 + j) (by omega) hj2
    rw [he, getD_eq hj2, e] at h3
    have : z ≠ x := by omega
    simp [this]
  have h3 : dropF x zs = dropF x (zs.take k) ++ dropF x (zs.getD k 0 :: zs.drop (k + 1)) := by
    conv => lhs; rw [e]
    simp only [dropF, List.filter_append]
  have h4 : dropF x (zs.getD k 0 :: zs.drop (k + 1)) = dropF x (zs.drop (k + 1)) := by rw [he]; simp [dropF]
  rw [h3, h4, h1, h2]

/-! ### Cuts of a slice; Concat of what HandWith and HandWithout lay before it -/
theorem Rd.take {w : World} {lo hi : Nat} {A : Option Addr} {n k : Nat} {zs : List Int} (h : Rd w lo hi A n zs) (hk : k ≤ n) : Rd w lo hi A k (zs.take k) := by
  refine ⟨by simp [h.1]; omega, fun hp => ?_⟩
  obtain ⟨b, off, e, h1, h2, hc⟩ := h.2 (by omega)
  refine ⟨b, off, e, h1, h2, fun j hj => ?_⟩
  rw [hc j (by omega)]
  simp [List.getD, hj]
theorem Rd.drop {w : World} {lo hi b off n k : Nat} {zs : List Int} (A : Option Addr) (h : Rd w lo hi (some ⟨b, off, none⟩) n zs) (hk : k ≤ n) (hA : k < n → A = some ⟨b, off + k, none⟩) : Rd w lo hi A (n - k) (zs.drop k) := by
  refine ⟨by simp [h.1], fun hp => ?_⟩
  obtain ⟨b', off', e, h1, h2, hc⟩ := h.2 (by omega)
  injection e with e
  injection e with e1 e2
  subst e1 e2
  refine ⟨b, off + k, hA (by omega), h1, h2, fun j hj => ?_⟩
  rw [Nat.add_assoc, hc (k + j) (by omega)]
  simp [List.getD, List.getElem?_drop]

def three {α : Type} (a b c : α) : Nat → α
  | 0 => a | 1 => b | _ => c
theorem catTo_three (a b c : List Int) : catTo (three a b c) 3 = a ++ (b ++ c) := by simp [catTo, three, List.range_succ]
theorem catTo_two (a b c : List Int) : catTo (three a b c) 2 = a ++ b := by simp [catTo, three, List.range_succ]

theorem Concat3 (x : Int) (A0 A2 : Option Addr) (n0 c0 n2 c2 : Nat) (z0 z2 : List Int) (lo hi : Nat) (w : World) (h0 : Rd w lo hi A0 n0 z0) (h2 : Rd w lo hi A2 n2 z2) (e0 : A0 = none → c0 = 0) (e2 : A2 = none → c2 = 0) (hn : n0 + n2 ≤ 1048570) :
    Calls Try.prog 52 #[.slice (some ⟨w.heap.size + 1, 0, none⟩) 3 3] ((w.alloc (.cells #[.int .i64 x] 2)).alloc (.cells #[.slice A0 n0 c0, .slice (some ⟨w.heap.size, 0, none⟩) 1 1, .slice A2 n2 c2] 32)).drew (RetS w (z0 ++ x :: z2)) := by
  generalize hW : ((w.alloc (.cells #[.int .i64 x] 2)).alloc (.cells #[.slice A0 n0 c0, .slice (some ⟨w.heap.size, 0, none⟩) 1 1, .slice A2 n2 c2] 32)).drew = W
  have hb : Chg w W 0 0 := by
    rw [← hW]
    exact (Chg.of_alloc w _ 0 0).trans ((Chg.of_alloc _ _ 0 0).trans (Chg.drewN _ 1 0 0))
  have hg : ∀ j, W.cell? ⟨w.heap.size + 1, j, none⟩ = (#[.slice A0 n0 c0, .slice (some ⟨w.heap.size, 0, none⟩) 1 1, .slice A2 n2 c2] : Array Value)[j]? := by
    intro j
    rw [← hW]
    simp
  have h1 : Rd W 0 W.heap.size (some ⟨w.heap.size, 0, none⟩) 1 [x] := by
    have : Own (w.alloc (.cells #[.int .i64 x] 2)) w.heap.size (w.alloc (.cells #[.int .i64 x] 2)).heap.size (some ⟨w.heap.size, 0, none⟩) 1 [x] := Own.of_alloc w #[.int .i64 x] 1 [x] rfl (fun j hj => by
      obtain rfl : j = 0 := by omega
      rfl)
    have h := this.rd.still ((Chg.of_alloc _ (.cells #[.slice A0 n0 c0, .slice (some ⟨w.heap.size, 0, none⟩) 1 1, .slice A2 n2 c2] 32) 0 0).trans (Chg.drewN _ 1 0 0))
    have h' := h.all
    rw [← hW]
    exact h'
  have hc := Concat (w.heap.size + 1) 3 3 (three A0 (some ⟨w.heap.size, 0, none⟩) A2) (three n0 1 n2) (three c0 1 c2) (three z0 [x] z2) W
    (fun j hj => by
      rw [hg j]
      match j, hj with
      | 0, _ => rfl
      | 1, _ => rfl
      | 2, _ => rfl)
    (fun j hj => by
      match j, hj with
      | 0, _ => exact (h0.still hb).all
      | 1, _ => exact h1
      | 2, _ => exact (h2.still hb).all)
    (fun j hj => by
      match j, hj with
      | 0, _ => exact e0
      | 1, _ => intro e; cases e
      | 2, _ => exact e2)
    (by omega) (by rw [catTo_three]; simp [h0.1, h2.1]; omega)
  rw [catTo_three] at hc
  exact hc.mono fun e w' h => RetS.of_later hb h

theorem Concat2 (A0 A1 : Option Addr) (n0 c0 n1 c1 : Nat) (z0 z1 : List Int) (lo hi : Nat) (w : World) (h0 : Rd w lo hi A0 n0 z0) (h1 : Rd w lo hi A1 n1 z1) (e0 : A0 = none → c0 = 0) (e1 : A1 = none → c1 = 0) (hn : n0 + n1 ≤ 1048570) :
    Calls Try.prog 52 #[.slice (some ⟨w.heap.size, 0, none⟩) 2 2] (w.alloc (.cells #[.slice A0 n0 c0, .slice A1 n1 c1] 32)).drew (RetS w (z0 ++ z1)) := by
  generalize hW : (w.alloc (.cells #[.slice A0 n0 c0, .slice A1 n1 c1] 32)).drew = W
  have hb : Chg w W 0 0 := by
    rw [← hW]
    exact (Chg.of_alloc w _ 0 0).trans (Chg.drewN _ 1 0 0)
  have hg : ∀ j, W.cell? ⟨w.heap.size, j, none⟩ = (#[.slice A0 n0 c0, .slice A1 n1 c1] : Array Value)[j]? := by
    intro j
    rw [← hW]
    simp
  have hc := Concat w.heap.size 2 2 (three A0 A1 A1) (three n0 n1 n1) (three c0 c1 c1) (three z0 z1 z1) W
    (fun j hj => by
      rw [hg j]
      match j, hj with
      | 0, _ => rfl
      | 1, _ => rfl)
    (fun j hj => by
      match j, hj with
      | 0, _ => exact (h0.still hb).all
      | 1, _ => exact (h1.still hb).all)
    (fun j hj => by
      match j, hj with
      | 0, _ => exact e0
      | 1, _ => exact e1)
    (by omega) (by rw [catTo_two]; simp [h0.1, h1.1]; omega)
  rw [catTo_two] at hc
  exact hc.mono fun e w' h => RetS.of_later hb h

set_option maxHeartbeats 1000000 in
theorem impl_HandWith_some (b off n c : Nat) (x : Int) (zs : List Int) (lo hi : Nat) (w : World) (h : Rd w lo hi (some ⟨b, off, none⟩) n zs) (hc : n ≤ c)
    (hh : handB zs = true) (hi' : inB x 0 51 = true) (hs : hasB zs x = false) (h13 : n ≠ 13) :
    Calls Try.prog 24 #[.slice (some ⟨b, off, none⟩) n c, .int .i64 x] w (RetSI w (ins x zs) 0) := by
  have hl := h.1
  have hle : n ≤ 1048570 := by have := hand_len hh; omega
  have ht : ((n : Int) == 13) = false := by rw [beq_eq_false_iff_ne]; omega
  have HM : Hid (∀ a b, a ≤ b → b < n → zs.getD a 0 ≤ zs.getD b 0) := by have := hand_mono hh; rw [hl] at this; exact this
  have HT := Lib.hid (hand_lt hh)
  have HL := Lib.hid hl
  have HH := Lib.hid hh
  have HS := Lib.hid hs
  clear hl hs h13
  go_enter Try.func24, Try.ntmps24
  go_wp2_with fail
  refine (impl_IsHand _ _ _ zs lo hi _ h).mono ?_
  rintro e w' ⟨rfl, rfl⟩
  go_wp2_with fail
  refine (isCard _ _).mono ?_
  rintro e w' ⟨rfl, rfl⟩
  go_wp2_with fail
  refine (BinarySearch _ _ _ x zs lo hi _ h (by omega) HM.out).mono ?_
  rintro e w' ⟨k, hp, rfl, rfl⟩
  rw [place_has hp HT.out, HS.out]
  have hk : k ≤ n := by have := hp.le; rw [HL.out] at this; exact this
  clear hh
  go_wp2_with fail
  have hkI : (k : Int) ≤ (n : Int) := by omega
  have hkc : (k : Int) ≤ (c : Int) := by omega
  have hnc : (n : Int) ≤ (c : Int) := by omega
  have r0 := h.take hk
  have hfin : Hid (zs.take k ++ x :: zs.drop k = ins x zs) := place_ins hp (by
    have := place_has hp HT.out
    rw [HS.out] at this
    exact of_decide_eq_false this)
  by_cases hck : c = k
  · subst hck
    obtain rfl : c = n := by omega
    have r2 := Rd.drop (some ⟨b, off, none⟩) h hk (fun hlt => by omega)
    rw [Nat.sub_self] at r2
    have hcon := Concat3 x _ _ c c 0 0 _ _ _ _ w r0 r2 (fun e => by cases e) (fun e => by cases e) (by omega)
    rw [hfin.out] at hcon
    have HN := Lib.hid hcon
    clear hcon r0 r2 hfin
    go_region_with (go_at_call 52; refine HN.out.mono ?_; rintro e w' ⟨A', c', rfl, hx⟩)
    all_goals
      go_wp2
      go_ret2
      exact RetSI.of_S (Chg.refl _ _ _) ⟨A', c', rfl, hx⟩
  · have r2 := Rd.drop (some ⟨b, off + k, none⟩) h hk (fun hlt => rfl)
    have hcon := Concat3 x _ _ k c (n - k) (c - k) _ _ _ _ w r0 r2 (fun e => by cases e) (fun e => by cases e) (by omega)
    rw [hfin.out] at hcon
    have HN := Lib.hid hcon
    clear hcon r0 r2 hfin
    go_region_with (go_at_call 52; refine HN.out.mono ?_; rintro e w' ⟨A', c', rfl, hx⟩)
    all_goals
      go_wp2
      go_ret2
      exact RetSI.of_S (Chg.refl _ _ _) ⟨A', c', rfl, hx⟩

set_option maxHeartbeats 1000000 in
theorem impl_HandWith_nil (x : Int) (w : World) (hi' : inB x 0 51 = true) :
    Calls Try.prog 24 #[.slice none 0 0, .int .i64 x] w (RetSI w (ins x []) 0) := by
  have h : Rd w 0 0 none 0 [] := Rd.none_
  have HB : Hid (handB [] = true) := rfl
  have hcon := Concat3 x none none 0 0 0 0 [] [] 0 0 w h h (fun _ => rfl) (fun _ => rfl) (by omega)
  have HN := Lib.hid hcon
  clear hcon
  go_enter Try.func24, Try.ntmps24
  go_wp2_with fail
  refine (impl_IsHand _ _ _ [] 0 0 _ h).mono ?_
  rintro e w' ⟨rfl, rfl⟩
  rw [HB.out]
  go_wp2_with fail
  refine (isCard _ _).mono ?_
  rintro e w' ⟨rfl, rfl⟩
  go_wp2_with fail
  refine (BinarySearch _ _ _ x [] 0 0 _ h (by omega) (fun a b _ hb => by omega)).mono ?_
  rintro e w' ⟨k, hp, rfl, rfl⟩
  have hk := hp.le
  obtain rfl : k = 0 := by simpa using hk
  clear hp hk
  go_wp2_with fail
  go_region_with (go_at_call 52; refine HN.out.mono ?_; rintro e w' ⟨A', c', rfl, hx⟩)
  all_goals
    go_wp2
    go_ret2
    exact RetSI.of_S (Chg.refl _ _ _) ⟨A', c', rfl, hx⟩

set_option maxHeartbeats 1000000 in
/-- impl.HandWith -/
theorem impl_HandWith (A : Option Addr) (n c : Nat) (x : Int) (zs : List Int) (lo hi : Nat) (w : World) (h : Rd w lo hi A n zs) (hc : n ≤ c) (hA : Plain A c) :
    Calls Try.prog 24 #[.slice A n c, .int .i64 x] w (RetSI w (withV zs x) (withC zs x)) := by
  cases hh : handB zs with
  | false =>
    refine Calls.mono ?_ (with_of (k := 1) (l := []) (by simp [withC, hh]) (by simp [withV, withC, hh]) w)
    go_enter Try.func24, Try.ntmps24
    go_wp2_with (go_at_call 27; refine (impl_IsHand _ _ _ zs lo hi _ h).mono ?_; rintro e w' ⟨rfl, rfl⟩)
    go_ret2
    exact RetSI.nil_ (Chg.refl _ _ _)
  | true =>
    cases hi' : inB x 0 51 with
    | false =>
      refine Calls.mono ?_ (with_of (k := 2) (l := []) (by simp [withC, hh, hi']) (by simp [withV, withC, hh, hi']) w)
      go_enter Try.func24, Try.ntmps24
      go_wp2_with (first | (go_at_call 27; refine (impl_IsHand _ _ _ zs lo hi _ h).mono ?_; rintro e w' ⟨rfl, rfl⟩) | (go_at_call 44; refine (isCard _ _).mono ?_; rintro e w' ⟨rfl, rfl⟩))
      go_ret2
      exact RetSI.nil_ (Chg.refl _ _ _)
    | true =>
      have hl := h.1
      have hle : n ≤ 1048570 := by have := hand_len hh; omega
      have HM : Hid (∀ a b, a ≤ b → b < n → zs.getD a 0 ≤ zs.getD b 0) := by have := hand_mono hh; rw [hl] at this; exact this
      have HT := Lib.hid (hand_lt hh)
      cases hs : hasB zs x with
      | true =>
        refine Calls.mono ?_ (with_of (k := 5) (l := []) (by simp [withC, hh, hi', hs]) (by simp [withV, withC, hh, hi', hs]) w)
        have HS := Lib.hid hs
        clear hs hl
        go_enter Try.func24, Try.ntmps24
        go_wp2_with fail
        refine (impl_IsHand _ _ _ zs lo hi _ h).mono ?_
        rintro e w' ⟨rfl, rfl⟩
        go_wp2_with fail
        refine (isCard _ _).mono ?_
        rintro e w' ⟨rfl, rfl⟩
        go_wp2_with fail
        refine (BinarySearch _ _ _ x zs lo hi _ h (by omega) HM.out).mono ?_
        rintro e w' ⟨k, hp, rfl, rfl⟩
        rw [place_has hp HT.out, HS.out]
        clear hp
        go_wp2_with fail
        go_ret2
        exact RetSI.nil_ (Chg.refl _ _ _)
      | false =>
        by_cases h13 : n = 13
        · refine Calls.mono ?_ (with_of (k := 3) (l := []) (by simp [withC, hh, hi', hs, hl, h13]) (by simp [withV, withC, hh, hi', hs, hl, h13]) w)
          have ht : ((n : Int) == 13) = true := by simp [h13]
          have HS := Lib.hid hs
          clear hs hl h13
          go_enter Try.func24, Try.ntmps24
          go_wp2_with fail
          refine (impl_IsHand _ _ _ zs lo hi _ h).mono ?_
          rintro e w' ⟨rfl, rfl⟩
          go_wp2_with fail
          refine (isCard _ _).mono ?_
          rintro e w' ⟨rfl, rfl⟩
          go_wp2_with fail
          refine (BinarySearch _ _ _ x zs lo hi _ h (by omega) HM.out).mono ?_
          rintro e w' ⟨k, hp, rfl, rfl⟩
          rw [place_has hp HT.out, HS.out]
          clear hp
          go_wp2_with fail
          go_ret2
          exact RetSI.nil_ (Chg.refl _ _ _)
        · refine Calls.mono ?_ (with_of (k := 0) (l := ins x zs) (by simp [withC, hh, hi', hs, hl, h13]) (by simp [withV, withC, hh, hi', hs, hl, h13]) w)
          rcases hA with ⟨rfl, rfl⟩ | ⟨b, off, rfl⟩
          · obtain rfl : n = 0 := by omega
            have hz : zs = [] := List.eq_nil_of_length_eq_zero hl
            subst hz
            exact impl_HandWith_nil x w hi'
          · exact impl_HandWith_some b off n c x zs lo hi w h hc hh hi' hs h13

set_option maxHeartbeats 1000000 in
theorem impl_HandWithout_some (b off n c : Nat) (x : Int) (zs : List Int) (lo hi : Nat) (w : World) (h : Rd w lo hi (some ⟨b, off, none⟩) n zs) (hc : n ≤ c)
    (hh : handB zs = true) (hs : hasB zs x = true) :
    Calls Try.prog 25 #[.slice (some ⟨b, off, none⟩) n c, .int .i64 x] w (RetSI w (dropF x zs) 0) := by
  have hl := h.1
  have hle : n ≤ 1048570 := by have := hand_len hh; omega
  have HM : Hid (∀ a b, a ≤ b → b < n → zs.getD a 0 ≤ zs.getD b 0) := by have := hand_mono hh; rw [hl] at this; exact this
  have HT := Lib.hid (hand_lt hh)
  have HL := Lib.hid hl
  have HS := Lib.hid hs
  clear hl hs
  go_enter Try.func25, Try.ntmps25
  go_wp2_with fail
  refine (impl_IsHand _ _ _ zs lo hi _ h).mono ?_
  rintro e w' ⟨rfl, rfl⟩
  go_wp2_with fail
  refine (BinarySearch _ _ _ x zs lo hi _ h (by omega) HM.out).mono ?_
  rintro e w' ⟨k, hp, rfl, rfl⟩
  have hfound : k < zs.length ∧ zs.getD k 0 = x := by
    have := place_has hp HT.out
    rw [HS.out] at this
    exact of_decide_eq_true this
  have hfin : Hid (zs.take k ++ zs.drop (k + 1) = dropF x zs) := place_drop hp HT.out hfound.1 hfound.2
  rw [decide_eq_true hfound]
  have hk : k < n := by have := hfound.1; rw [HL.out] at this; exact this
  have r0 := h.take (Nat.le_of_lt hk)
  clear hh hfound hp
  have e1 : IntKind.i64.wrap ((k : Int) + 1) = (k : Int) + 1 := IntWalk.i64_in _ (by omega)
  have e2 : ((k : Int) + 1).toNat = k + 1 := by omega
  have e3 : (0 : Int) ≤ (k : Int) + 1 := by omega
  have e4 : (k : Int) + 1 ≤ (n : Int) := by omega
  have e5 : (k : Int) ≤ (c : Int) := by omega
  have e6 : (n : Int) ≤ (c : Int) := by omega
  by_cases hck : c = k + 1
  · subst hck
    obtain rfl : n = k + 1 := by omega
    have r2 := Rd.drop (some ⟨b, off, none⟩) h (Nat.le_refl _) (fun hlt => by omega)
    rw [Nat.sub_self] at r2
    have hcon := Concat2 _ _ k (k + 1) 0 0 _ _ _ _ w r0 r2 (fun e => by cases e) (fun e => by cases e) (by omega)
    rw [hfin.out] at hcon
    have HN := Lib.hid hcon
    clear hcon r0 r2 hfin
    go_wp2_with fail
    go_region_with (go_at_call 52; go_must (go_fit HN.out); rintro e w' ⟨A', c', rfl, hx⟩)
    all_goals
      go_wp2
      go_ret2
      exact RetSI.of_S (Chg.refl _ _ _) ⟨A', c', rfl, hx⟩
  · have r2 := Rd.drop (some ⟨b, off + (k + 1), none⟩) h (show k + 1 ≤ n from hk) (fun hlt => rfl)
    have hcon := Concat2 _ _ k c (n - (k + 1)) (c - (k + 1)) _ _ _ _ w r0 r2 (fun e => by cases e) (fun e => by cases e) (by omega)
    rw [hfin.out] at hcon
    have HN := Lib.hid hcon
    clear hcon r0 r2 hfin
    go_wp2_with fail
    go_region_with (go_at_call 52; go_must (go_fit HN.out); rintro e w' ⟨A', c', rfl, hx⟩)
    all_goals
      go_wp2
      go_ret2
      exact RetSI.of_S (Chg.refl _ _ _) ⟨A', c', rfl, hx⟩

set_option maxHeartbeats 1000000 in
/-- impl.HandWithout -/
theorem impl_HandWithout (A : Option Addr) (n c : Nat) (x : Int) (zs : List Int) (lo hi : Nat) (w : World) (h : Rd w lo hi A n zs) (hc : n ≤ c) :
    Calls Try.prog 25 #[.slice A n c, .int .i64 x] w (RetSI w (withoutV zs x) (withoutC zs x)) := by
  cases hh : handB zs with
  | false =>
    refine Calls.mono ?_ (without_of (k := 1) (l := []) (by simp [withoutC, hh]) (by simp [withoutV, withoutC, hh]) w)
    go_enter Try.func25, Try.ntmps25
    go_wp2_with (go_at_call 27; refine (impl_IsHand _ _ _ zs lo hi _ h).mono ?_; rintro e w' ⟨rfl, rfl⟩)
    go_ret2
    exact RetSI.nil_ (Chg.refl _ _ _)
  | true =>
    have hl := h.1
    have hle : n ≤ 1048570 := by have := hand_len hh; omega
    have HM : Hid (∀ a b, a ≤ b → b < n → zs.getD a 0 ≤ zs.getD b 0) := by have := hand_mono hh; rw [hl] at this; exact this
    have HT := Lib.hid (hand_lt hh)
    cases hs : hasB zs x with
    | false =>
      refine Calls.mono ?_ (without_of (k := 4) (l := []) (by simp [withoutC, hh, hs]) (by simp [withoutV, withoutC, hh, hs]) w)
      have HS := Lib.hid hs
      clear hs hl
      go_enter Try.func25, Try.ntmps25
      go_wp2_with fail
      refine (impl_IsHand _ _ _ zs lo hi _ h).mono ?_
      rintro e w' ⟨rfl, rfl⟩
      go_wp2_with fail
      refine (BinarySearch _ _ _ x zs lo hi _ h (by omega) HM.out).mono ?_
      rintro e w' ⟨k, hp, rfl, rfl⟩
      rw [place_has hp HT.out, HS.out]
      clear hp
      go_wp2_with fail
      go_ret2
      exact RetSI.nil_ (Chg.refl _ _ _)
    | true =>
      refine Calls.mono ?_ (without_of (k := 0) (l := dropF x zs) (by simp [withoutC, hh, hs]) (by simp [withoutV, withoutC, hh, hs]) w)
      have hpos : 0 < n := by
        rcases Nat.eq_zero_or_pos n with e | e
        · have hz : zs = [] := List.eq_nil_of_length_eq_zero (by omega)
          subst hz; simp [hasB] at hs
        · exact e
      obtain ⟨b, off, rfl, _⟩ := h.2 hpos
      exact impl_HandWithout_some b off n c x zs lo hi w h hc hh hs

end Go.Proofs.Ytboagmdpefamgaa.Lib1
