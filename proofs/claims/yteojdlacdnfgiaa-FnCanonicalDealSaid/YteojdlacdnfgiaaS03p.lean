/- Chapter 3: the model's PermuteSuits. -/
import Derived.Test.YteojdlacdnfgiaaS03r
import Derived.Deep.RegionWith
import Derived.Test.YteojdlacdnfgiaaTwo
namespace Go.Proofs.Yteojdlacdnfgiaa.Lib1
open Go.RowKit
set_option maxRecDepth 100000

def orderB (to : List Int) : Bool := decide (to.length = 4) && (hasB to 0 && (hasB to 1 && (hasB to 2 && hasB to 3)))
theorem order_range {to : List Int} (h : orderB to = true) : to.length = 4 ∧ ∀ i, i < 4 → 0 ≤ to.getD i 0 ∧ to.getD i 0 ≤ 3 := by
  simp only [orderB, hasB, Bool.and_eq_true, decide_eq_true_eq] at h
  obtain ⟨h4, m0, m1, m2, m3⟩ := h
  refine ⟨h4, ?_⟩
  match to, h4 with
  | [a, b, c, d], _ =>
    simp only [List.mem_cons, List.not_mem_nil, or_false] at m0 m1 m2 m3
    intro i hi
    have hq : i = 0 ∨ i = 1 ∨ i = 2 ∨ i = 3 := by omega
    rcases hq with rfl | rfl | rfl | rfl
    · show 0 ≤ a ∧ a ≤ 3; omega
    · show 0 ≤ b ∧ b ≤ 3; omega
    · show 0 ≤ c ∧ c ≤ 3; omega
    · show 0 ≤ d ∧ d ≤ 3; omega
/-- A card in its new suit. -/
def newSuit (to : List Int) (z : Int) : Int := 13 * to.getD (z / 13).toNat 0 + z % 13
def permTo (row to : List Int) : Nat → List Int
  | 0 => []
  | i + 1 => ins (newSuit to (row.getD i 0)) (permTo row to i)
def permF (row to : List Int) : List Int := permTo row to row.length
theorem permTo_len (row to : List Int) : ∀ i, (permTo row to i).length = i
  | 0 => rfl
  | i + 1 => by rw [permTo, ins_length, permTo_len row to i]
def permRows (zss : List (List Int)) (to : List Int) : Nat → List (List Int)
  | 0 => []
  | s + 1 => permRows zss to s ++ [permF (zss.getD s []) to]
def permV (zss : List (List Int)) (to : List Int) : List (List Int) := if dealB zss && orderB to then permRows zss to 4 else []
def permE (zss : List (List Int)) (to : List Int) : Int := if dealB zss then (if orderB to then 0 else 2) else 1
theorem permRows_length (zss : List (List Int)) (to : List Int) : ∀ s, (permRows zss to s).length = s
  | 0 => rfl
  | s + 1 => by simp [permRows, permRows_length zss to s]

/-- spec.l03Order -/
theorem l03Order (T : Option Addr) (m d : Nat) (to : List Int) (lo hi : Nat) (w : World) (h : Rd w lo hi T m to) (hm : m ≤ 1048576) :
    Calls Try.prog 67 #[.slice T m d] w fun e w' => e = .returned (.bool (orderB to)) ∧ w = w' := by
  have hl := h.1
  by_cases h4 : m = 4
  · subst h4
    have e : Hid (orderB to = (hasB to 0 && (hasB to 1 && (hasB to 2 && hasB to 3)))) := by show _ = _; simp [orderB, hl]
    rw [e.out]
    cases q0 : hasB to 0 <;> cases q1 : hasB to 1 <;> cases q2 : hasB to 2 <;> cases q3 : hasB to 3
    all_goals
      go_enter Try.func67, Try.ntmps67
      go_wp2_with (go_at_call 79; refine (l01Has T 4 d _ to lo hi _ h hm).mono ?_; rintro e w' ⟨rfl, rfl⟩; (try rw [q0]); (try rw [q1]); (try rw [q2]); (try rw [q3]))
      go_ret
      exact ⟨rfl, rfl⟩
  · have e : Hid (orderB to = false) := by show _ = _; simp [orderB, show to.length ≠ 4 by omega]
    have hne : ((m : Int) == 4) = false := by simp; omega
    rw [e.out]
    go_enter Try.func67, Try.ntmps67
    go_wp2
    go_ret
    exact ⟨rfl, rfl⟩

set_option maxHeartbeats 2000000 in
/-- spec.l03Permute -/
theorem l03Permute (A : Option Addr) (n c : Nat) (row : List Int) (lo hi : Nat) (T : Option Addr) (d : Nat) (to : List Int) (lo' hi' : Nat) (w : World) (h : Rd w lo hi A n row) (ht : Rd w lo' hi' T 4 to) (hn : n ≤ 1048000)
    (h51 : ∀ j, j < n → 0 ≤ row.getD j 0 ∧ row.getD j 0 ≤ 51) (hto : ∀ i, i < 4 → 0 ≤ to.getD i 0 ∧ to.getD i 0 ≤ 3) :
    Calls Try.prog 68 #[.slice A n c, .slice T 4 d] w (RetV w (permF row to)) := by
  have hrl := h.1
  have ha := h.all
  have hta := ht.all
  clear h ht
  go_enter Try.func68, Try.ntmps68
  go_wp2
  go_loopw [5, 6] (fun v i wr => ∃ k : Nat, k ≤ n ∧ i = .int .i64 k ∧ OwnV wr w.heap.size v (permTo row to k) ∧ Below w.heap.size w wr) (fun _ i _ => n - (intOf i).toNat)
  case atStart => exact ⟨0, Nat.zero_le _, rfl, OwnV.made w (Nat.le_refl _), (Below.refl _ _).alloc (Nat.le_refl _) _⟩
  case round =>
    obtain ⟨k, hk, rfl, ho, hb⟩ := hrel
    by_cases hlt : k < n
    · have hkl : (k : Int) < (n : Int) := by omega
      obtain ⟨b, off, rfl, _, _, hcs⟩ := (ha.below hb (Nat.le_refl _)).2 (by omega)
      have hck := hcs k hlt
      have hz := h51 k hlt
      have HS : Hid (permTo row to (k + 1) = ins (newSuit to (row.getD k 0)) (permTo row to k)) := rfl
      generalize row.getD k 0 = z at hck hz HS
      obtain ⟨z0, z1⟩ := hz
      obtain ⟨q, hq⟩ : ∃ q : Nat, z / 13 = q := ⟨(z / 13).toNat, by omega⟩
      have hq4 : q < 4 := by omega
      have hqt : z.tdiv 13 = (q : Int) := by rw [Int.tdiv_eq_ediv_of_nonneg z0]; exact hq
      have hrt : z.tmod 13 = z % 13 := Int.tmod_eq_emod_of_nonneg z0
      have hq0 : (0 : Int) ≤ (q : Int) := by omega
      have hq1 : (q : Int) < 4 := by omega
      obtain ⟨tb, toff, rfl, _, _, htc⟩ := (hta.below hb (Nat.le_refl _)).2 (by omega)
      have htq := htc q hq4
      have hts := hto q hq4
      have hns : Hid (newSuit to z = 13 * to.getD q 0 + z % 13) := by show _ = _; rw [newSuit, hq]; rfl
      rw [hns.out] at HS
      generalize to.getD q 0 = t at htq hts HS
      obtain ⟨t0, t1⟩ := hts
      have wf0 : IntKind.i64.wrap (q : Int) = (q : Int) := IntWalk.i64_in _ (by omega)
      have wf3 : IntKind.i64.wrap (z % 13) = z % 13 := IntWalk.i64_in _ (by omega)
      have wf1 : IntKind.i64.wrap (13 * t) = 13 * t := IntWalk.i64_in _ (by omega)
      have wf2 : IntKind.i64.wrap (13 * t + z % 13) = 13 * t + z % 13 := IntWalk.i64_in _ (by omega)
      have hlen := permTo_len row to k
      obtain ⟨P, pc, rfl, _, _, hown⟩ := ho.form_at hlen
      have hpr := hown.rd.still (Chg.drewN wr 1 0 0)
      have hbd := below_drewN hb 1
      clear hcs htc ho hown hns
      go_wp2
      go_region_with (go_at_call 80; refine (l01PutV P k pc (13 * t + z % 13) (permTo row to k) _ _ _ hpr (by omega)).mono ?_; rintro e w3 ⟨v3, rfl, o3, b3⟩)
      all_goals
        have b4 := hbd.trans (b3.mono hbd.size)
        have o4 := o3.more hbd.size
        rw [← HS.out] at o4
        clear o3 b3 hpr hbd hb
        go_wp2
        go_roundw
        case rel => exact ⟨k + 1, by omega, by go_num, o4, b4⟩
        case measure => simp [intOf]; omega
    · obtain rfl : k = n := by omega
      have hf : Hid (permF row to = permTo row to k) := by show _ = _; rw [permF, hrl]
      rw [← hf.out] at ho
      go_wp2
      go_ret
      exact ⟨_, rfl, ho, hb⟩

set_option maxHeartbeats 4000000 in
/-- spec.PermuteSuits -/
theorem spec_PermuteSuits (A : Option Addr) (n c : Nat) (zss : List (List Int)) (lo hi : Nat) (T : Option Addr) (m d : Nat) (to : List Int) (lo' hi' : Nat) (w : World) (h : RdR w lo hi A n zss) (ht : Rd w lo' hi' T m to) (hm : m ≤ 1048576) (hn : n ≤ 1048576) (hl : ∀ j, j < n → (zss.getD j []).length ≤ 1048576) :
    Calls Try.prog 29 #[.agg #[.slice A n c], .slice T m d] w (RetDI w (permV zss to) (permE zss to)) := by
  have c2 := Lib.hid ((Chg.of_alloc w (.cells #[.slice A n c] 36) 0 0).trans (Chg.of_alloc _ (.cells #[.slice none 0 0] 36) 0 0))
  cases hd : dealB zss with
  | false =>
    have hv : Hid (permV zss to = []) := by show _ = _; simp [permV, hd]
    have he : Hid (permE zss to = 1) := by show _ = _; simp [permE, hd]
    have HD := Lib.hid hd
    rw [hv.out, he.out]
    go_enter Try.func29, Try.ntmps29
    go_wp2_with fail
    refine (l03Deal A n c zss lo hi _ (h.still c2.out) hl).mono ?_
    rintro e w1 ⟨rfl, c1⟩
    rw [HD.out]
    have hbx := Box2.start w (.slice A n c) (.slice none 0 0)
    have hb1 := (hbx.still c1).c1
    have hf1 := (hbx.still c1).f1
    have hret := fun u => (hbx.still c1).ret u
    have hcf := Lib.hid (((c2.out.trans c1).cell (g := w.heap.size + 1) (i := 0) (v := .slice none 0 0) (by omega)))
    clear hbx c1
    go_wp2_with fail
    (try simp only [Exit.inBlock, Exit.then])
    refine bodyPost_ret (v := .tuple #[.agg #[.slice none 0 0], .int .i64 1]) (by simp [results, Try.results29, go_sem, hret]; try rfl) rfl ?_
    exact ⟨none, 0, rfl, Nat.le_refl _, OwnR.none_, hcf.out⟩
  | true =>
    have hz4 : n = 4 := by rw [← h.1]; exact ((deal_iff zss).1 hd).1
    subst hz4
    have HD := Lib.hid hd
    cases hk : orderB to with
    | false =>
      have hv : Hid (permV zss to = []) := by show _ = _; simp [permV, hk]
      have he : Hid (permE zss to = 2) := by show _ = _; simp [permE, hd, hk]
      have HK := Lib.hid hk
      rw [hv.out, he.out]
      go_enter Try.func29, Try.ntmps29
      go_wp2_with fail
      refine (l03Deal A 4 c zss lo hi _ (h.still c2.out) hl).mono ?_
      rintro e w1 ⟨rfl, c1⟩
      rw [HD.out]
      have hbx := Box2.start w (.slice A 4 c) (.slice none 0 0)
      have hb1 := (hbx.still c1).c1
      have hf1 := (hbx.still c1).f1
      have hret := fun u => (hbx.still c1).ret u
      have htr := ht.still (c2.out.trans c1)
      have hcf := Lib.hid (((c2.out.trans c1).cell (g := w.heap.size + 1) (i := 0) (v := .slice none 0 0) (by omega)))
      clear hbx c1 hk
      go_wp2_with fail
      refine (l03Order T m d to lo' hi' _ htr hm).mono ?_
      rintro e w' ⟨rfl, rfl⟩
      rw [HK.out]
      go_wp2_with fail
      (try simp only [Exit.inBlock, Exit.then])
      refine bodyPost_ret (v := .tuple #[.agg #[.slice none 0 0], .int .i64 2]) (by simp [results, Try.results29, go_sem, hret]; try rfl) rfl ?_
      exact ⟨none, 0, rfl, Nat.le_refl _, OwnR.none_, hcf.out⟩
    | true =>
      have hv : Hid (permV zss to = permRows zss to 4) := by show _ = _; simp [permV, hd, hk]
      have he : Hid (permE zss to = 0) := by show _ = _; simp [permE, hd, hk]
      have HK := Lib.hid hk
      have hz := h.1
      rw [hv.out, he.out]
      obtain ⟨hto4, hto⟩ := order_range hk
      obtain rfl : m = 4 := by rw [← ht.1]; exact hto4
      have hrows := Lib.hid ((deal_iff zss).1 hd).2.1
      clear hk
      go_enter Try.func29, Try.ntmps29
      go_wp2_with fail
      refine (l03Deal A 4 c zss lo hi _ (h.still c2.out) hl).mono ?_
      rintro e w1 ⟨rfl, c1⟩
      rw [HD.out]
      have hbx := (Box2.start w (.slice A 4 c) (.slice none 0 0)).still c1
      have c12 := Lib.hid (c2.out.trans c1)
      have htr := ht.still c12.out
      clear c1
      go_wp2_with fail
      refine (l03Order T 4 d to lo' hi' _ htr hm).mono ?_
      rintro e w' ⟨rfl, rfl⟩
      rw [HK.out]
      go_wp2_with fail
      have hz2 : w.heap.size + 2 ≤ w1.heap.size := lt_of_block hbx.b1
      have hst := BoxG.start hbx (.slice none 0 0)
      have hbl : Below w.heap.size w (w1.alloc (.cells #[.slice none 0 0] 36)) := c12.out.to_below.alloc (by omega) _
      generalize hg : w1.heap.size = g at hz2 hst
      have hs1 : (w1.alloc (.cells #[.slice none 0 0] 36)).heap.size = g + 1 := by simp [hg]
      clear hbx hg htr
      generalize w1.alloc (.cells #[.slice none 0 0] 36) = w2 at hst hbl hs1
      go_loopw [7] (fun i wr => ∃ (s : Nat) (v : Value), s ≤ 4 ∧ i = .int .i64 s ∧ Hid (BoxG w wr g (.slice A 4 c) (.slice none 0 0) v) ∧ OwnVR wr (g + 1) v (permRows zss to s) ∧ Below w.heap.size w wr ∧ g + 1 ≤ wr.heap.size) (fun i _ => 4 - (intOf i).toNat)
      case atStart => exact ⟨0, _, by omega, rfl, hst, OwnVR.nil_ _ _, hbl, by omega⟩
      case round =>
        clear hst hbl hs1
        obtain ⟨s, v, hs, rfl, hbox, ho, hb, hs3⟩ := hrel
        have hb0 := hbox.out.c0
        by_cases hlt : s < 4
        · have hsl : (s : Int) < 4 := by omega
          obtain ⟨b, off, B, C, rfl, _, _, hcw, hrw, hle, hnil⟩ := h.at_ hlt
          have hch := Chg.of_below hb 0 0
          have hcr := box_still hcw hch
          have hrd := (hrw.still hch).still (Chg.drewN wr 1 0 0)
          have htd := (ht.still hch).still (Chg.drewN wr 1 0 0)
          have hrow := hrows.out s hlt
          have h13 := hand_len hrow.1
          have h51 : ∀ j, j < (zss.getD s []).length → 0 ≤ (zss.getD s []).getD j 0 ∧ (zss.getD s []).getD j 0 ≤ 51 := fun j hj => ((hand_iff _).1 hrow.1).2.2 _ (by rw [getD_at _ _ hj]; exact List.getElem_mem _)
          have htk : Hid (permRows zss to (s + 1) = permRows zss to s ++ [permF (zss.getD s []) to]) := rfl
          have hkz := permRows_length zss to s
          generalize zss.getD s [] = row at hcr hrd hle htk h13 h51
          have hCall := Lib.hid (l03Permute B row.length C row lo hi T d to lo' hi' _ hrd htd (by omega) h51 hto)
          generalize permRows zss to s = done at ho htk hkz
          generalize permF row to = prow at htk hCall
          clear hcw hrw hrow h51
          have hb2 := hbox.out.c2
          go_wp2
          go_region_law
            (first
              | (go_simp; go_at_call 68; refine hCall.out.mono ?_; rintro e w3 ⟨v1, rfl, o1, b1⟩; obtain ⟨D, c1, rfl, hc1, hp1, ow1⟩ := o1.form; have hg1 : Below wr.heap.size wr w3 := ((Below.refl _ _).drew).trans b1; have kk1 := box_still hb2 (Chg.of_below hg1 0 0); have kb1 := fun o => box_still kk1 (Chg.of_alloc w3 o 0 0))
              | (refine step_of_wp rfl (wp_pushR (w := wr) (w1 := w3) (.tmp 22) (.tmp 30) rfl (g + 1) v done (by rfl) ho (fun q _ hq => hg1.block q hq) hg1.size D c1 prow ow1 hc1 hp1 (by rfl) (by omega) hs3 ?_); intro v2 w4 o2 b2; obtain ⟨A2, c2', rfl, _, _⟩ := o2.own; have HBx := Lib.hid ((hbox.out.below (hg1.mono hs3) hz2).below b2 hz2); have kk4 := HBx.out.c2; have hf2 := HBx.out.f2))
          all_goals
            have e2 : (done ++ [prow]).length = s + 1 := by rw [List.length_append, hkz]; rfl
            rw [e2] at o2
            rw [← htk.out] at o2
            have hfin := OwnVR.kept (w' := w4.setCell ⟨g, 0, none⟩ (.slice A2 (s + 1) c2')) o2 (fun q hq _ => Below.heap_setCell _ _ _ _ (by show q ≠ g; omega)) (by simp [World.setCell])
            have hcf := ((Chg.of_below ((hb.trans (hg1.mono hb.size)).trans (b2.mono (by omega))) 0 0).cell (g := g) (i := 0) (v := .slice A2 (s + 1) c2') (by omega)).to_below
            have hsf : g + 1 ≤ (w4.setCell ⟨g, 0, none⟩ (.slice A2 (s + 1) c2')).heap.size := by have := hg1.size; have := b2.size; simp [World.setCell]; omega
            clear o2 b2 hg1 hb ho kk1 kk4 kb1 hb0 hb2 hcr hrd htd o1 b1 ow1
            go_wp2
            go_roundw
            case rel => exact ⟨s + 1, _, by omega, by go_num, HBx.out.put hz2 _, hfin, hcf, hsf⟩
            case measure => simp [intOf]; omega
        · obtain rfl : s = 4 := by omega
          have hR := permRows_length zss to 4
          obtain ⟨A2, c2', rfl, hc2, hown⟩ := ho.own
          rw [hR] at hc2 hown hbox
          have hb2 := hbox.out.c2
          have hb1 := hbox.out.c1
          have hf1 := hbox.out.f1
          have hret := fun u => hbox.out.ret u
          have hfin := Lib.hid (hown.chg (w' := wr.setCell ⟨w.heap.size + 1, 0, none⟩ (.slice A2 4 c2')) ((Chg.refl wr (w.heap.size + 1) (w.heap.size + 2)).store (b := w.heap.size + 1) (k := 0) (by omega) (by omega) _) (.inr (by omega)))
          have hcf := Lib.hid ((Chg.of_below hb 0 0).cell (g := w.heap.size + 1) (i := 0) (v := .slice A2 4 c2') (by omega))
          clear hown hb ho
          go_wp2
          (try simp only [Exit.inBlock, Exit.then])
          refine bodyPost_ret (v := .tuple #[.agg #[.slice A2 4 c2'], .int .i64 0]) (by simp [results, Try.results29, go_sem, hret]; try rfl) rfl ?_
          exact ⟨A2, c2', by rw [hR], by rw [hR]; exact hc2, by rw [hR]; exact hfin.out.more (by omega) (by simp [World.setCell]), hcf.out⟩

end Go.Proofs.Yteojdlacdnfgiaa.Lib1
