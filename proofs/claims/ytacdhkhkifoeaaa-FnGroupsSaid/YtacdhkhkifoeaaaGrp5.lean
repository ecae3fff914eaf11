/- Chapter 5: the program's groupsOf. -/
import Derived.Test.YtacdhkhkifoeaaaHold5
import Derived.Test.YtacdhkhkifoeaaaGrow5
namespace Go.Proofs.Ytacdhkhkifoeaaa.Lib1
open Go.RowKit
set_option maxRecDepth 100000

/-- A function hands back rows of its own. -/
def RetQ (w : World) (zss : List (List Int)) (e : Ending) (w' : World) : Prop := ∃ v, e = .returned v ∧ OwnVQ w' w.heap.size v zss ∧ Below w.heap.size w w'
theorem OwnVQ.more {w : World} {base base' : Nat} {v : Value} {zss : List (List Int)} (h : OwnVQ w base v zss) (hb : base' ≤ base) : OwnVQ w base' v zss := by
  obtain ⟨vs, h1, h2, h3⟩ := h
  refine ⟨vs, ⟨h1.1, ?_⟩, fun j hj => (h2 j hj).more hb, h3⟩
  rcases h1.2 with q | ⟨g, cap, cur, e, hg, r⟩
  · exact .inl q
  · exact .inr ⟨g, cap, cur, e, Nat.le_trans hb hg, r⟩
theorem runsS_zero (f : Int → Int) (s : Int) : runsR (fun x => decide (f x = s)) (ascF f 0 0).reverse = [] := rfl
theorem runs_count (p : Int → Bool) : ∀ l : List Int, (runsR p l).length ≤ l.length
  | [] => Nat.le_refl _
  | x :: l => by
    have := runs_count p l
    rw [runsR]
    split
    · split
      · simp [pushLast]; omega
      · simp; omega
    · simp; omega
theorem runsTo_count (f : Int → Int) (s : Int) : ∀ q, (runsTo f s q).length ≤ 13 * q
  | 0 => Nat.le_refl _
  | q + 1 => by
    have := runsTo_count f s q
    have h1 := runs_count (fun x => decide (f x = s)) (suitA f q).reverse
    have h2 := ascF_len f 13 (13 * (q : Int))
    rw [List.length_reverse] at h1
    rw [runsTo, List.length_append]
    have h3 : (runsS f s q).length ≤ 13 := Nat.le_trans h1 h2
    omega

theorem runs_row (p : Int → Bool) {l r : List Int} (hr : r ∈ runsR p l) : r.length ≤ l.length := by
  have h1 : r.length ≤ (runsR p l).flatten.length := (List.sublist_flatten_of_mem hr).length_le
  rw [runs_flat] at h1
  have h2 := List.length_filter_le p l.reverse
  rw [List.length_reverse] at h2
  omega
theorem runsS_row {f : Int → Int} {s : Int} {q : Nat} {r : List Int} (hr : r ∈ runsS f s q) : r.length ≤ 13 := by
  have := runs_row _ hr
  have h2 := ascF_len f 13 (13 * (q : Int))
  rw [List.length_reverse] at this
  exact Nat.le_trans this h2
theorem runsTo_row {f : Int → Int} {s : Int} {q : Nat} {r : List Int} (hr : r ∈ runsTo f s q) : r.length ≤ 13 := by
  obtain ⟨q, _, h⟩ := mem_runsTo hr
  exact runsS_row h
theorem getD_len {gs : List (List Int)} {n : Nat} (h : ∀ r ∈ gs, r.length ≤ n) (j : Nat) : (gs.getD j []).length ≤ n := by
  by_cases hj : j < gs.length
  · rw [getD_row hj]; exact h _ (List.getElem_mem _)
  · rw [List.getD_eq_getElem?_getD, List.getElem?_eq_none (by omega)]; simp
def stepQ (x s : Int) (gs : List (List Int)) (o : Bool) (c : Int) : List (List Int) × Bool :=
  if x = -1 then (gs, o) else if x = s then ((if o then pushLast gs c else gs ++ [[c]]), true) else (gs, false)
theorem stepG_Q (f : Int → Int) (s : Int) (gs : List (List Int)) (o : Bool) (c : Int) : stepG f s gs o c = stepQ (f c) s gs o c := rfl
set_option maxHeartbeats 4000000 in
theorem groupsOf (f : Int → Int) (s : Int) (w : World) (hs : 0 ≤ s) (hf : ∀ x, f x = -1 ∨ 0 ≤ f x) :
    Calls Try.prog 70 #[.agg (holdA f), .int .i64 s] w (RetQ w (runsTo f s 4)) := by
  have hbx := Lib.hid (heap_alloc_new w (.cells (holdA f) 67))
  have hca := Lib.hid ((Below.refl w.heap.size w).alloc (Nat.le_refl _) (.cells (holdA f) 67))
  generalize hR : holdA f = R at hbx hca
  have HH : Hid (HeldI (w.alloc (.cells R 67)) w.heap.size f) := HeldI.of_row (by rw [hR]; exact hbx.out)
  have hsz : Hid ((w.alloc (.cells R 67)).heap.size = w.heap.size + 1) := by show _ = _; simp
  have hC0 : ∀ q : Nat, q < 4 → ∀ W, Calls Try.prog 65 #[.int .i64 (q : Int), .int .i64 0] W fun e w' => e = .returned (.int .i64 (13 * (q : Int))) ∧ W = w' := fun q hq W => by have := impl_CardOf (q : Int) 0 W; rwa [cardV_yes (by omega), Int.add_zero] at this
  have hC1 : ∀ q : Nat, q < 4 → ∀ W, Calls Try.prog 65 #[.int .i64 (q : Int), .int .i64 12] W fun e w' => e = .returned (.int .i64 (13 * (q : Int) + 12)) ∧ W = w' := fun q hq W => by have := impl_CardOf (q : Int) 12 W; rwa [cardV_yes (by omega)] at this
  clear hbx hR
  go_enter Try.func70, Try.ntmps70
  go_wp2
  generalize w.alloc (.cells R 67) = w0 at HH hca hsz
  go_loopw [5, 10] (fun v i wr => ∃ q : Nat, q ≤ 4 ∧ i = .int .i64 q ∧ OwnVQ wr (w.heap.size + 1) v (runsTo f s q) ∧ Below (w.heap.size + 1) w0 wr) (fun _ i _ => 4 - (intOf i).toNat)
  case atStart => exact ⟨0, Nat.zero_le _, rfl, OwnVQ.nil_ _ _, Below.refl _ _⟩
  case round =>
    obtain ⟨q, hq, rfl, ho, hb⟩ := hrel
    by_cases hlt : q < 4
    · have hql : (q : Int) < 4 := by omega
      have hC0q := hC0 q hlt
      have hC1q := hC1 q hlt
      obtain ⟨wo, hwo⟩ : ∃ wo, wo = wr := ⟨wr, rfl⟩
      subst hwo
      go_wp2_with (go_at_call 65; refine (hC0q _).mono ?_; rintro e w' ⟨rfl, rfl⟩)
      have hcnt := runsTo_count f s q
      have HN : Hid (runsTo f s (q + 1) = runsTo f s q ++ runsR (fun x => decide (f x = s)) (ascF f 13 (13 * (q : Int))).reverse) := rfl
      obtain ⟨p, hp⟩ : ∃ p, p = fun x => decide (f x = s) := ⟨_, rfl⟩
      have HP := Lib.hid hp
      rw [← hp] at HN
      clear hp
      have HGL := Lib.hid (fun r (h : r ∈ runsTo f s q) => runsTo_row h)
      generalize runsTo f s q = G at ho HN hcnt HGL
      go_loopw [5, 7, 8] (fun v o x wr => ∃ (k : Nat), k ≤ 13 ∧ x = .int .i64 (13 * (q : Int) + k) ∧ o = .bool (startsP p (ascF f k (13 * (q : Int))).reverse) ∧ OwnVQ wr (w.heap.size + 1) v (G ++ runsR p (ascF f k (13 * (q : Int))).reverse) ∧ Below (w.heap.size + 1) w0 wr) (fun _ _ x _ => (13 * (q : Int) + 13 - intOf x).toNat)
      case atStart => exact ⟨0, Nat.zero_le _, by simp, rfl, by simpa [ascF, runsR] using ho, hb⟩
      case round =>
        clear ho hb
        obtain ⟨k, hk, rfl, rfl, ho, hb⟩ := hrel
        have hz1 : w.heap.size + 1 ≤ wr.heap.size := by have := hb.size; rw [hsz.out] at this; exact this
        by_cases hk13 : k < 13
        · have hle : 13 * (q : Int) + (k : Int) ≤ 13 * (q : Int) + 12 := by omega
          have i0 : 0 ≤ 13 * (q : Int) + (k : Int) := by omega
          have i1 : 13 * (q : Int) + (k : Int) < 52 := by omega
          obtain ⟨hc1, _⟩ := (HH.out.below hb (Nat.lt_succ_self _)).cell (13 * (q : Int) + (k : Int)) i0 (by omega)
          have hcase := hf (13 * (q : Int) + (k : Int))
          have hst := Lib.hid ((stepG_Q f s _ _ _).symm.trans (startsP_asc f s (13 * (q : Int)) k hcase _ p HP.out _ rfl G rfl))
          have hlen : (G ++ runsR p (ascF f k (13 * (q : Int))).reverse).length ≤ 65 := by
            have h1 := runs_count p (ascF f k (13 * (q : Int))).reverse
            have h2 := ascF_len f k (13 * (q : Int))
            rw [List.length_reverse] at h1
            rw [List.length_append]; omega
          have HRL : Hid (∀ j, ((G ++ runsR p (ascF f k (13 * (q : Int))).reverse).getD j []).length ≤ 13) := getD_len fun r hr => by
            rcases List.mem_append.1 hr with h | h
            · exact HGL.out r h
            · have h1 := runs_row p h
              have h2 := ascF_len f k (13 * (q : Int))
              rw [List.length_reverse] at h1
              omega
          rw [show (13 * (q : Int) + (k : Int)).toNat = 13 * q + k by omega] at hc1
          have hnon : Hid (startsP p (ascF f k (13 * (q : Int))).reverse = true → ∃ m, (G ++ runsR p (ascF f k (13 * (q : Int))).reverse).length = m + 1) := fun h => by
            obtain ⟨gs, e⟩ := runs_last p _ h
            exact ⟨G.length + gs.length, by rw [e]; simp; omega⟩
          generalize G ++ runsR p (ascF f k (13 * (q : Int))).reverse = gs at ho hst hlen hnon HRL
          generalize startsP p (ascF f k (13 * (q : Int))).reverse = o at hst hnon
          generalize f (13 * (q : Int) + (k : Int)) = v at hc1 hcase hst
          by_cases h1 : v = -1
          · subst h1
            have e : Hid (gs = G ++ runsR p (ascF f (k + 1) (13 * (q : Int))).reverse ∧ o = startsP p (ascF f (k + 1) (13 * (q : Int))).reverse) := by have := hst.out; rw [stepQ, if_pos rfl] at this; exact Prod.mk.inj this
            clear hst hcase hnon
            go_wp2_with (go_at_call 65; refine (hC1q _).mono ?_; rintro e w' ⟨rfl, rfl⟩)
            go_roundw
            case rel => exact ⟨k + 1, by omega, by go_num, by rw [← e.out.2], by rw [← e.out.1]; exact ho, hb⟩
            case measure => simp [intOf]; omega
          · have h1b : (v == -1) = false := by simpa using h1
            by_cases h2 : v = s
            · subst h2
              cases o with
              | true =>
                have e : Hid (pushLast gs (13 * (q : Int) + (k : Int)) = G ++ runsR p (ascF f (k + 1) (13 * (q : Int))).reverse ∧ true = startsP p (ascF f (k + 1) (13 * (q : Int))).reverse) := by have := hst.out; rw [stepQ, if_neg h1, if_pos rfl, if_pos rfl] at this; exact Prod.mk.inj this
                obtain ⟨m, hm⟩ := hnon.out rfl
                have e2 : Hid (pushLast gs (13 * (q : Int) + (k : Int)) = gs.set m (gs.getD m [] ++ [13 * (q : Int) + (k : Int)])) := by show _ = _; rw [pushLast, hm, Nat.add_sub_cancel]
                obtain ⟨b, cap, u, hv, hb1, hb2, hcell, hfr, hou, hback⟩ := ho.grow (j := m) (by omega)
                rw [hm] at hv
                subst hv
                have hrl : (gs.getD m []).length ≤ 1048576 := by have := HRL.out m; omega
                obtain ⟨A, c, eu, _⟩ := hou.form
                have HB := Lib.hid hback
                clear hst hcase hnon hback ho
                generalize gs.getD m [] = row at hou hrl e2 eu
                subst eu
                have em : (m : Int) + 1 - 1 = (m : Int) := by omega
                have em1 : (m : Int) < (m : Int) + 1 := by omega
                go_wp2_with (first | (go_at_call 65; refine (hC1q _).mono ?_; rintro e w' ⟨rfl, rfl⟩) | (at_builtin; refine wpList_pushQ rfl _ _ rfl (w.heap.size + 1) _ row rfl hou _ rfl hrl hz1 ?_; intro v3 w3 o3 b3 k3 n3; obtain ⟨A3, c3, e3, _⟩ := o3.form; subst e3; obtain ⟨q1, q2, q3⟩ := HB.out w3 _ _ o3 k3 n3))
                have hb3 := hb.trans b3
                rw [← e2.out, e.out.1, show (row ++ [13 * (q : Int) + (k : Int)]).length = row.length + 1 by simp] at q3
                go_roundw
                case rel => exact ⟨k + 1, by omega, by go_num, by rw [← e.out.2], q3, hb3.setCell (p := ⟨b, m, none⟩) hb1 _⟩
                case measure => simp [intOf]; omega
              | false =>
                have e : Hid (gs ++ [[13 * (q : Int) + (k : Int)]] = G ++ runsR p (ascF f (k + 1) (13 * (q : Int))).reverse ∧ true = startsP p (ascF f (k + 1) (13 * (q : Int))).reverse) := by have := hst.out; rw [stepQ, if_neg h1, if_pos rfl, if_neg (by simp)] at this; exact Prod.mk.inj this
                clear hst hcase hnon
                have hnew := OwnV.new wr [13 * (q : Int) + (k : Int)] #[.int .i64 (13 * (q : Int) + (k : Int))] rfl (by simp) (Nat.le_refl _)
                have hkk := fun (k' : Nat) (_ : w.heap.size + 1 ≤ k') (h : k' < wr.heap.size) => Below.heap_alloc wr (.cells #[.int .i64 (13 * (q : Int) + (k : Int))] 2) k' h
                have hzz : wr.heap.size ≤ (wr.alloc (.cells #[.int .i64 (13 * (q : Int) + (k : Int))] 2)).heap.size := by simp
                have hba := Lib.hid ((Below.refl (w.heap.size + 1) wr).alloc hz1 (.cells #[.int .i64 (13 * (q : Int) + (k : Int))] 2))
                go_wp2_with (first | (go_at_call 65; refine (hC1q _).mono ?_; rintro e w' ⟨rfl, rfl⟩) | (at_builtin; refine wpList_pushVQ (w := wr) rfl (.tmp 21) (.tmp 24) rfl (w.heap.size + 1) _ gs (by rfl) ho hkk hzz _ _ hnew (wr.heap.size + 1) (by simp) (by rfl) (by omega) hz1 ?_; intro v3 w3 o3 b3))
                have hb3 := hb.trans (hba.out.trans b3)
                rw [e.out.1] at o3
                clear b3 hnew hkk hzz hb ho
                go_roundw
                case rel => exact ⟨k + 1, by omega, by go_num, by rw [← e.out.2], o3, hb3⟩
                case measure => simp [intOf]; omega
            · have h2b : (v == s) = false := by simpa using h2
              have e : Hid (gs = G ++ runsR p (ascF f (k + 1) (13 * (q : Int))).reverse ∧ false = startsP p (ascF f (k + 1) (13 * (q : Int))).reverse) := by have := hst.out; rw [stepQ, if_neg h1, if_neg h2] at this; exact Prod.mk.inj this
              clear hst hcase hnon
              go_wp2_with (go_at_call 65; refine (hC1q _).mono ?_; rintro e w' ⟨rfl, rfl⟩)
              go_roundw
              case rel => exact ⟨k + 1, by omega, by go_num, by rw [← e.out.2], by rw [← e.out.1]; exact ho, hb⟩
              case measure => simp [intOf]; omega
        · obtain rfl : k = 13 := by omega
          have hgt : ¬ 13 * (q : Int) + ((13 : Nat) : Int) ≤ 13 * (q : Int) + 12 := by omega
          rw [← HN.out] at ho
          go_wp2_with (go_at_call 65; refine (hC1q _).mono ?_; rintro e w' ⟨rfl, rfl⟩)
          go_roundw
          case rel => exact ⟨q + 1, by omega, by go_num, ho, hb⟩
          case measure => simp [intOf]; omega
    · obtain rfl : q = 4 := by omega
      go_wp2
      go_ret
      exact ⟨_, rfl, ho.more (Nat.le_succ _), hca.out.trans (hb.mono (Nat.le_succ _))⟩

/-! ### GroupsOf -/
def RetQI (w : World) (zss : List (List Int)) (k : Int) (e : Ending) (w' : World) : Prop :=
  ∃ A c, e = .returned (.tuple #[.slice A zss.length c, .int .i64 k]) ∧ zss.length ≤ c ∧ OwnR w' w.heap.size w'.heap.size A zss.length zss ∧ Chg w w' 0 0
theorem RetQI.of_eq {w w' : World} {zss zss' : List (List Int)} {k k' : Int} {e : Ending} (h1 : zss' = zss) (h2 : k' = k) (h : RetQI w zss k e w') : RetQI w zss' k' e w' := by subst h1; subst h2; exact h
theorem isSeat (s : Int) (w : World) : Calls Try.prog 69 #[.int .i64 s] w fun e w' => e = .returned (.bool (inB s 0 3)) ∧ w = w' := by
  by_cases h1 : 0 ≤ s
  · by_cases h2 : s < 4
    · rw [inB_true (by omega)]
      go_enter Try.func69, Try.ntmps69
      go_wp2
      go_ret
      exact ⟨rfl, rfl⟩
    · rw [inB_false (by omega)]
      go_enter Try.func69, Try.ntmps69
      go_wp2
      go_ret
      exact ⟨rfl, rfl⟩
  · rw [inB_false (by omega)]
    go_enter Try.func69, Try.ntmps69
    go_wp2
    go_ret
    exact ⟨rfl, rfl⟩

set_option maxHeartbeats 2000000 in
theorem impl_GroupsOf (A : Option Addr) (n c : Nat) (s : Int) (zss : List (List Int)) (lo hi : Nat) (w : World) (h : RdR w lo hi A n zss) :
    Calls Try.prog 25 #[.agg #[.slice A n c], .int .i64 s] w (RetQI w (grpV zss s) (grpE zss s)) := by
  have ca := Lib.hid (Chg.of_alloc w (.cells #[.slice A n c] 26) 0 0)
  have hbx := Lib.hid (box_at w (.slice A n c) 26)
  have hb0 := hbx.out
  cases hd : dealB zss with
  | false =>
    have hv : Hid (grpV zss s = []) := by show _ = _; simp [grpV, hd]
    have he : Hid (grpE zss s = 1) := by show _ = _; simp [grpE, hd]
    have HD := Lib.hid hd
    go_enter Try.func25, Try.ntmps25
    go_wp2_with fail
    refine (isDeal A n c zss lo hi _ (h.still ca.out)).mono ?_
    rintro e w1 ⟨rfl, c1⟩
    rw [HD.out]
    go_wp2_with fail
    go_ret2
    exact RetQI.of_eq hv.out he.out ⟨none, 0, rfl, Nat.le_refl _, OwnR.none_, ca.out.trans c1⟩
  | true =>
    have HD := Lib.hid hd
    cases hi3 : inB s 0 3 with
    | false =>
      have hv : Hid (grpV zss s = []) := by show _ = _; simp [grpV, hi3]
      have he : Hid (grpE zss s = 2) := by show _ = _; simp [grpE, hd, hi3]
      have H3 := Lib.hid hi3
      clear hd hi3
      go_enter Try.func25, Try.ntmps25
      go_wp2_with fail
      refine (isDeal A n c zss lo hi _ (h.still ca.out)).mono ?_
      rintro e w1 ⟨rfl, c1⟩
      rw [HD.out]
      go_wp2_with fail
      refine (isSeat s _).mono ?_
      rintro e w' ⟨rfl, rfl⟩
      rw [H3.out]
      go_wp2_with fail
      go_ret2
      exact RetQI.of_eq hv.out he.out ⟨none, 0, rfl, Nat.le_refl _, OwnR.none_, ca.out.trans c1⟩
    | true =>
      have hv : Hid (grpV zss s = runsTo (holderF zss) s 4) := by show _ = _; simp [grpV, hd, hi3]
      have he : Hid (grpE zss s = 0) := by show _ = _; simp [grpE, hd, hi3]
      have H3 := Lib.hid hi3
      have hs0 : 0 ≤ s := by simp [inB] at hi3; omega
      clear hd hi3
      go_enter Try.func25, Try.ntmps25
      go_wp2_with fail
      refine (isDeal A n c zss lo hi _ (h.still ca.out)).mono ?_
      rintro e w1 ⟨rfl, c1⟩
      rw [HD.out]
      have hb1 := box_still hbx.out c1
      go_wp2_with fail
      refine (isSeat s _).mono ?_
      rintro e w' ⟨rfl, rfl⟩
      rw [H3.out]
      go_wp2_with fail
      refine (holdersOf A n c zss lo hi _ (h.still (ca.out.trans c1)) HD.out).mono ?_
      rintro e w2 ⟨rfl, c2⟩
      go_wp2_with fail
      refine (groupsOf (holderF zss) s _ hs0 (holder_cases zss)).mono ?_
      rintro e w3 ⟨v, rfl, o3, b3⟩
      obtain ⟨A3, c3, rfl, hc3, own3⟩ := o3.own
      go_wp2_with fail
      go_ret2
      have c12 := (ca.out.trans c1).trans c2
      exact RetQI.of_eq hv.out he.out ⟨A3, c3, rfl, hc3, own3.more c12.size (Nat.le_refl _), c12.trans (Chg.of_below b3 0 0)⟩

end Go.Proofs.Ytacdhkhkifoeaaa.Lib1
