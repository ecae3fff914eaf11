/- Chapter 4: the program's listWithout (over the library's Clone and DeleteFunc) and allCards. -/
import Derived.Test.YtfhfgdgpilpdkaaSub4
import Derived.Test.YtfhfgdgpilpdkaaMapE
import Derived.Test.YtfhfgdgpilpdkaaShelfD
import Derived.Sort.OwnSortedInts
namespace Go.Proofs.Ytfhfgdgpilpdkaa.Lib1
open Go.RowKit Go.Sort
set_option maxRecDepth 100000

theorem OwnV.cut {w : World} {base g N cap : Nat} {F E : List Int} (h : OwnV w base (.slice (some ⟨g, 0, none⟩) N cap) (F ++ E)) : OwnV w base (.slice (some ⟨g, 0, none⟩) F.length cap) F := by
  rcases h.2 with ⟨e, _⟩ | ⟨g', cap', cur, hv, hg, hh, h1, h2, h3, ht⟩
  · cases e
  · injection hv with e1 e2 e3
    injection e1 with e1
    injection e1 with e1
    subst e1 e3
    refine ⟨by simp, .inr ⟨g, cap, cur, rfl, hg, hh, ?_, h2, h3, ?_⟩⟩
    · simp at h1; omega
    · rw [Nat.mul_one] at ht ⊢
      have e := congrArg (List.take F.length) ht
      rw [List.take_take] at e
      simpa [Nat.min_eq_left] using e

theorem IndexFunc_none (f : Value) (w : World) : Calls Try.prog 155 #[.slice none 0 0, f] w fun e w' => e = .returned (.int .i64 (-1)) ∧ w = w' := by
  go_enter Try.func155, Try.ntmps155
  go_wp2
  go_loop [8] (fun i => i = .int .i64 0) (fun _ => 0)
  case atStart => rfl
  case round =>
    subst hrel
    go_wp2
    go_ret
    exact ⟨rfl, rfl⟩

set_option maxHeartbeats 1000000 in
theorem delete64 {w : World} {base : Nat} {v : Value} {ss : List Int} {p : Int → Bool} {g : Nat} {lb : Array Value} (eg : ∀ args w, (callFunc g args).run Try.prog w = .ok (.enter g args) w) (h : OwnV w base v ss) (hn : ss.length ≤ 1048576) (hb : base ≤ w.heap.size)
    (hp : ∀ (W : World) (x : Int), Below base w W → FnGives Try.prog g lb #[.int .i64 x] (.bool (p x)) W) :
    Calls Try.prog 134 #[v, .func (.func g) #[] lb] w fun e w' => ∃ v', e = .returned v' ∧ OwnV w' base v' (ss.filter fun x => !p x) ∧ Below base w w' := by
  rcases h.2 with ⟨rfl, h0⟩ | ⟨b, cap, cur, rfl, hg, hh, h1, h2, h3, ht⟩
  · have : ss = [] := List.eq_nil_of_length_eq_zero h0
    subst this
    clear h h0 hn
    go_enter Try.func134, Try.ntmps134
    go_wp2_with (go_at_call 155; refine (IndexFunc_none _ _).mono ?_; rintro e w' ⟨rfl, rfl⟩)
    go_ret
    exact ⟨_, rfl, OwnV.nil_ _ _, Below.refl _ _⟩
  · have hH := holds_of_blockI hh (by rw [Nat.mul_one] at ht; exact ht)
    have hbo : ∀ (n : Nat) (os : Array Obj) (dk : Array Int), Below base w (grow (putRow (Value.int .i64) (Sort.ahead w n) b 0 dk) os) := fun n os dk =>
      (Below.refl base w).grown (grownBy_sortedI _) hb (by intro k hk; injection hk with hk; omega)
    have c := AnyE.slices_DeleteFunc Try.laysDel (Value.int .i64) (fun _ => rfl) p g lb eg 0 Try.zeroValue2 b 0 cap ss.toArray w (fun W x hW => hp W x (hW.mono hb)) (fun n os dk x _ => hp _ x (hbo n os dk)) hH (by simp; omega) (by simpa using h1)
    rw [show ss.toArray.size = ss.length by simp] at c
    refine c.mono fun e w' ⟨he, q, hw⟩ => ⟨_, he, ?_, ?_⟩
    · have o := ownsRow_sortedI (w := w) (n := q) (os := #[]) (ss := ss) (ts := (ss.filter fun x => !p x) ++ List.replicate (ss.length - (ss.filter fun x => !p x).length) 0) (by
        have := List.length_filter_le (fun x => !p x) ss
        simp; omega) hg hh h1 h2 h3
      rw [Sort.grow_empty] at o
      have hw2 : w' = putRow (Value.int .i64) (Sort.ahead w q) b 0 ((ss.filter fun x => !p x) ++ List.replicate (ss.length - (ss.filter fun x => !p x).length) 0).toArray := by simpa using hw
      rw [hw2]
      have hl : ((ss.filter fun x => !p x) ++ List.replicate (ss.length - (ss.filter fun x => !p x).length) 0).length = ss.length := by
        have := List.length_filter_le (fun x => !p x) ss
        simp; omega
      have o' : OwnV (putRow (Value.int .i64) (Sort.ahead w q) b 0 ((ss.filter fun x => !p x) ++ List.replicate (ss.length - (ss.filter fun x => !p x).length) 0).toArray) base (.slice (some ⟨b, 0, none⟩) ss.length cap) ((ss.filter fun x => !p x) ++ List.replicate (ss.length - (ss.filter fun x => !p x).length) 0) := by
        unfold OwnV; rw [hl]; exact o
      simpa using o'.cut
    · have := hbo q #[] ((ss.filter fun x => !p x) ++ List.replicate (ss.length - (ss.filter fun x => !p x).length) 0).toArray
      rw [Sort.grow_empty] at this
      rw [hw]; simpa using this

theorem removed_fn (pb m d : Nat) (x : Int) (B : Option Addr) (R : List Int) (lo hi : Nat) (W : World) (hb : W.cell? ⟨pb, 0, none⟩ = some (.slice B m d)) (hr : Rd W lo hi B m R) (hm : m ≤ 1048576) :
    Calls Try.prog 133 #[.int .i64 x, .pointer (some ⟨pb, 0, none⟩)] W fun e w' => e = .returned (.bool (hasB R x)) ∧ W = w' := by
  go_enter Try.func133, Try.ntmps133
  go_wp2_with (go_at_call 89; refine (Contains64 _ _ _ _ R lo hi _ hr hm).mono ?_; rintro e w' ⟨rfl, rfl⟩)
  go_ret
  exact ⟨rfl, rfl⟩

set_option maxHeartbeats 2000000 in
theorem listWithout (A B : Option Addr) (n c m d : Nat) (L R : List Int) (lo hi lo' hi' : Nat) (w : World) (h : Rd w lo hi A n L) (h' : Rd w lo' hi' B m R) (hn : n ≤ 1048576) (hm : m ≤ 1048576) (hp : A = none → c = 0) :
    Calls Try.prog 95 #[.slice A n c, .slice B m d] w (RetV w (restL L R)) := by
  have eg : ∀ args w, (callFunc 133 args).run Try.prog w = .ok (.enter 133 args) w := enters_of Try.func133 (by kernel_rfl) rfl
  have ca := Lib.hid (Chg.of_alloc w (.cells #[.slice B m d] 27) 0 0)
  have ba := Lib.hid ((Below.refl w.heap.size w).alloc (Nat.le_refl _) (.cells #[.slice B m d] 27))
  have hbx : Hid ((w.alloc (.cells #[.slice B m d] 27)).heap[w.heap.size]? = some (.cells #[.slice B m d] 27 (0, 0))) := heap_alloc_new w _
  have hsz : Hid ((w.alloc (.cells #[.slice B m d] 27)).heap.size = w.heap.size + 1) := by show _ = _; simp
  have hz := Lib.hid h.1
  have hl := Lib.hid (h.still ca.out)
  have hr := Lib.hid (h'.all.still ca.out)
  clear h h'
  go_enter Try.func95, Try.ntmps95
  go_wp2_with fail
  refine (Clone64 A n c L _ _ _ hl.out hn hp).mono ?_
  rintro e w2 ⟨v, rfl, o2, b2⟩
  have hgive : ∀ (W : World) (x : Int), Below (w.alloc (.cells #[.slice B m d] 27)).heap.size w2 W → FnGives Try.prog 133 #[.pointer (some ⟨w.heap.size, 0, none⟩)] #[.int .i64 x] (.bool (hasB R x)) W := fun W x hW => by
    have bW := b2.trans hW
    have hbW : W.heap[w.heap.size]? = some (.cells #[.slice B m d] 27 (0, 0)) := (bW.block _ (by rw [hsz.out]; omega)).trans hbx.out
    have hc : W.cell? ⟨w.heap.size, 0, none⟩ = some (.slice B m d) := by rw [cell_of_row _ _ _ _ _ _ hbW]; rfl
    exact (removed_fn w.heap.size m d x B R _ _ W hc (hr.out.below bW (by rw [hsz.out]; omega)) hm).mono fun e w' ⟨he, hw⟩ => ⟨he, 0, by rw [← hw]; rfl⟩
  have hdel := delete64 (p := hasB R) eg o2 (by rw [hz.out]; exact hn) b2.size hgive
  clear hgive o2
  go_wp2_with fail
  refine hdel.mono ?_
  rintro e w3 ⟨v3, rfl, o3, b3⟩
  go_wp2_with fail
  go_ret
  refine ⟨_, rfl, ?_, ?_⟩
  · exact o3.more (by rw [hsz.out]; omega)
  · exact ba.out.trans ((b2.trans b3).mono (by rw [hsz.out]; omega))

set_option maxHeartbeats 1000000 in
theorem allCards (w : World) : Calls Try.prog 102 #[] w (RetV w (allL 52)) := by
  have hmk : ∀ w, (Instr.makeSlice 27 (.int .i64 0) (.int .i64 52)).run Try.prog w = .ok (.slice (some ⟨w.heap.size, 0, none⟩) 0 52) (w.alloc (.cells (madeCells #[.int .i64 0] 52) 2)) := fun w => make_room64 52 (by omega) w
  have ho0 := Lib.hid (OwnV.room w (Nat.le_refl _) 52 (by omega))
  have hb0 := Lib.hid ((Below.refl w.heap.size w).alloc (Nat.le_refl _) (.cells (madeCells #[.int .i64 0] 52) 2))
  go_enter Try.func102, Try.ntmps102
  go_wp2
  clear hmk
  go_loopw [1, 4] (fun v i wr => ∃ k : Nat, k ≤ 52 ∧ i = .int .i64 k ∧ OwnV wr w.heap.size v (allL k) ∧ Below w.heap.size w wr) (fun _ i _ => 52 - (intOf i).toNat)
  case atStart => exact ⟨0, Nat.zero_le _, rfl, ho0.out, hb0.out⟩
  case round =>
    obtain ⟨k, hk, rfl, ho, hb⟩ := hrel
    by_cases hlt : k < 52
    · have hkl : (k : Int) < 52 := by omega
      have hlen : (allL k).length ≤ 1048576 := by rw [allL_length]; omega
      have hsize := hb.size
      have hs := Lib.hid (allL_succ k)
      go_wp2_with (at_builtin; refine wpList_push rfl _ _ rfl w.heap.size _ _ rfl ho _ rfl hlen hsize ?_; intro v1 w1 o1 b1)
      rw [← hs.out] at o1
      have hb1 := hb.trans b1
      clear ho hb b1 hs
      go_roundw
      case rel => exact ⟨k + 1, by omega, by go_num, o1, hb1⟩
      case measure => simp [intOf]; omega
    · obtain rfl : k = 52 := by omega
      go_wp2
      go_ret
      exact ⟨_, rfl, ho, hb⟩
end Go.Proofs.Ytfhfgdgpilpdkaa.Lib1
