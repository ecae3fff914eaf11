/- Chapter 5: the program's holdersOf and relativeCard. Chapter 5: the program's groupsOf. -/
import Derived.Test.YteojdlacdnfgiaaLists5
import Derived.Test.YteojdlacdnfgiaaImplA
import Derived.Test.YteojdlacdnfgiaaSetR5
import Derived.Laws.Tables
import Derived.Test.YteojdlacdnfgiaaGrows5
namespace Go.Proofs.Yteojdlacdnfgiaa.Lib1

section
open Go.RowKit
set_option maxRecDepth 100000

/-- An array of 52 numbers. -/
def HeldI (w : World) (g : Nat) (f : Int → Int) : Prop := ∃ cs : Array Value, w.heap[g]? = some (.cells cs 97 (0, 0)) ∧ cs.size = 52 ∧ ∀ c : Nat, c < 52 → cs[c]? = some (.int .i64 (f (c : Int)))
theorem HeldI.cell {w : World} {g : Nat} {f : Int → Int} (h : HeldI w g f) (c : Int) (h0 : 0 ≤ c) (h1 : c ≤ 51) : w.cell? ⟨g, c.toNat, none⟩ = some (.int .i64 (f c)) ∧ w.frozen? ⟨g, c.toNat, none⟩ = false := by
  obtain ⟨cs, hg, _, hc⟩ := h
  have e : ((c.toNat : Nat) : Int) = c := by omega
  refine ⟨?_, by simp [World.frozen?, hg]⟩
  rw [cell_of_row w g _ cs _ _ hg, hc c.toNat (by omega), e]
theorem HeldI.put {w : World} {g : Nat} {f : Int → Int} (h : HeldI w g f) (c z : Int) (h0 : 0 ≤ c) (h1 : c ≤ 51) {f' : Int → Int} (hf : ∀ x, 0 ≤ x → x ≤ 51 → f' x = if x = c then z else f x) : HeldI (w.setCell ⟨g, c.toNat, none⟩ (.int .i64 z)) g f' := by
  obtain ⟨cs, hg, hs, hc⟩ := h
  refine ⟨cs.setIfInBounds c.toNat (.int .i64 z), by simp [World.setCell, Array.getElem?_modify, hg], by simpa using hs, fun k hk => ?_⟩
  rw [Array.getElem?_setIfInBounds, hf _ (by omega) (by omega)]
  by_cases e : c.toNat = k
  · have : (k : Int) = c := by omega
    rw [if_pos e, if_pos this, if_pos (by omega)]
  · have : (k : Int) ≠ c := by omega
    rw [if_neg e, if_neg this, hc k hk]
theorem HeldI.still {w w' : World} {g : Nat} {f : Int → Int} (h : HeldI w g f) (c : Chg w w' 0 0) : HeldI w' g f := by
  obtain ⟨cs, hg, hc⟩ := h
  exact ⟨cs, (c.block g (lt_of_block hg) (.inr (Nat.zero_le _))).trans hg, hc⟩
theorem HeldI.below {w w' : World} {g B : Nat} {f : Int → Int} (h : HeldI w g f) (c : Below B w w') (hg' : g < B) : HeldI w' g f := by
  obtain ⟨cs, hg, hc⟩ := h
  exact ⟨cs, (c.block g hg').trans hg, hc⟩
theorem HeldI.of_eq {w : World} {g : Nat} {f f' : Int → Int} (h : HeldI w g f) (hf : ∀ x, 0 ≤ x → x ≤ 51 → f' x = f x) : HeldI w g f' := by
  obtain ⟨cs, hg, hs, hc⟩ := h
  exact ⟨cs, hg, hs, fun k hk => by rw [hc k hk, hf _ (by omega) (by omega)]⟩
def holdA (f : Int → Int) : Array Value := Array.ofFn fun i : Fin 52 => Value.int .i64 (f ((i.val : Nat) : Int))
theorem holdA_size (f : Int → Int) : (holdA f).size = 52 := by simp [holdA]
theorem holdA_at (f : Int → Int) (k : Nat) (hk : k < 52) : (holdA f)[k]? = some (.int .i64 (f (k : Int))) := by simp [holdA, hk]
theorem HeldI.row {w : World} {g : Nat} {f : Int → Int} (h : HeldI w g f) : w.heap[g]? = some (.cells (holdA f) 97 (0, 0)) := by
  obtain ⟨cs, hg, hs, hc⟩ := h
  rw [hg]
  have : cs = holdA f := by
    apply Array.ext
    · rw [hs, holdA_size]
    · intro i h1 h2
      have a := hc i (by omega)
      have b := holdA_at f i (by omega)
      rw [Array.getElem?_eq_getElem h1] at a
      rw [Array.getElem?_eq_getElem h2] at b
      exact Option.some.inj (a.trans b.symm)
  rw [this]
theorem HeldI.of_row {w : World} {g : Nat} {f : Int → Int} (h : w.heap[g]? = some (.cells (holdA f) 97 (0, 0))) : HeldI w g f := ⟨_, h, holdA_size f, fun c hc => holdA_at f c hc⟩
theorem hold_info (f : Int → Int) : (Try.prog.info? 97).map (·.size) = some (holdA f).size := by rw [holdA_size]; kernel_rfl
theorem hold_cells (f : Int → Int) : (holdA f).all (·.oneCell') = true := by
  rw [Array.all_eq_true]
  intro i hi
  have b := holdA_at f i (by rw [holdA_size] at hi; exact hi)
  rw [Array.getElem?_eq_getElem hi] at b
  rw [Option.some.inj b]; rfl
def zeros52 : Array Value := #[.int .i64 0, .int .i64 0, .int .i64 0, .int .i64 0, .int .i64 0, .int .i64 0, .int .i64 0, .int .i64 0, .int .i64 0, .int .i64 0, .int .i64 0, .int .i64 0, .int .i64 0, .int .i64 0, .int .i64 0, .int .i64 0, .int .i64 0, .int .i64 0, .int .i64 0, .int .i64 0, .int .i64 0, .int .i64 0, .int .i64 0, .int .i64 0, .int .i64 0, .int .i64 0, .int .i64 0, .int .i64 0, .int .i64 0, .int .i64 0, .int .i64 0, .int .i64 0, .int .i64 0, .int .i64 0, .int .i64 0, .int .i64 0, .int .i64 0, .int .i64 0, .int .i64 0, .int .i64 0, .int .i64 0, .int .i64 0, .int .i64 0, .int .i64 0, .int .i64 0, .int .i64 0, .int .i64 0, .int .i64 0, .int .i64 0, .int .i64 0, .int .i64 0, .int .i64 0]
theorem zeros52_eq : zeros52 = holdA fun _ => 0 := by kernel_rfl

def lastTo (zss : List (List Int)) (c : Int) : Nat → Int
  | 0 => -1
  | k + 1 => if hasB (zss.getD k []) c then (k : Int) else lastTo zss c k
theorem last_hold {zss : List (List Int)} (hn : zss.flatten.Nodup) (c : Int) : ∀ k, k ≤ zss.length → lastTo zss c k = holdTo zss c k
  | 0, _ => rfl
  | k + 1, hk => by
    have ih := last_hold hn c k (by omega)
    rw [lastTo, holdTo, ih]
    cases hh : hasB (zss.getD k []) c with
    | true =>
      have hm := (hasB_iff _ _).1 hh
      have : holdTo zss c k = -1 := by
        rcases holdTo_range zss c k with q | q
        · exact q
        · obtain ⟨j, hj, _, hmj⟩ := holdTo_mem k q.1
          have := one_row hn (by omega) (by omega) hmj hm
          omega
      rw [this, if_pos rfl]; simp
    | false =>
      by_cases q : holdTo zss c k = -1
      · rw [if_pos q]; simpa using q
      · rw [if_neg q]; simp
def valTo (zss : List (List Int)) (s i : Nat) (c : Int) : Int := if c ∈ (zss.getD s []).take i then (s : Int) else lastTo zss c s
theorem valTo_succ {zss : List (List Int)} {s i : Nat} (hi : i < (zss.getD s []).length) (x : Int) : valTo zss s (i + 1) x = if x = (zss.getD s []).getD i 0 then (s : Int) else valTo zss s i x := by
  unfold valTo
  generalize zss.getD s [] = row at hi ⊢
  rw [List.take_succ_eq_append_getElem hi, getD_at _ _ hi]
  by_cases e : x = row[i]
  · rw [if_pos e, if_pos (by rw [e]; exact List.mem_append_right _ (List.mem_singleton.2 rfl))]
  · rw [if_neg e]
    simp only [List.mem_append, List.mem_singleton, e, or_false]
theorem valTo_next (zss : List (List Int)) (s : Nat) (x : Int) : valTo zss (s + 1) 0 x = valTo zss s (zss.getD s []).length x := by
  unfold valTo
  rw [List.take_length]
  simp [lastTo, hasB]
theorem valTo_zero (zss : List (List Int)) (x : Int) : valTo zss 0 0 x = -1 := by simp [valTo, lastTo]
theorem valTo_all {zss : List (List Int)} (hd : dealB zss = true) (x : Int) : valTo zss 4 0 x = holderF zss x := by
  obtain ⟨h4, _, hn⟩ := (deal_iff zss).1 hd
  unfold valTo
  rw [holderF, h4, ← last_hold hn x 4 (by omega)]
  simp

theorem Chg.row5 {w w1 : World} (h : Chg w w1 0 0) {g : Nat} (hg : w.heap.size ≤ g) (cs : Array Value) : Chg w (w1.setRow g cs) 0 0 :=
  ⟨h.os, h.tape, h.output, by rw [setRow_size]; exact h.size, fun k hk hq => (setRow_other w1 g k cs (by omega)).trans (h.block k hk hq)⟩
set_option maxHeartbeats 2000000 in
theorem holdersOf (A : Option Addr) (n c : Nat) (zss : List (List Int)) (lo hi : Nat) (w : World) (h : RdR w lo hi A n zss) (hd : dealB zss = true) :
    Calls Try.prog 97 #[.agg #[.slice A n c]] w fun e w' => e = .returned (.agg (holdA (holderF zss))) ∧ Chg w w' 0 0 := by
  have hz := h.1
  obtain ⟨hz4, hrows, _⟩ := (deal_iff zss).1 hd
  obtain rfl : n = 4 := by omega
  have HR := Lib.hid hrows
  have HD := Lib.hid hd
  clear hrows hd hz hz4
  go_enter Try.func97, Try.ntmps97
  have hb0 := Lib.hid (heap_alloc_new w (.cells #[.slice A 4 c] 36))
  have hb1 := Lib.hid (heap_alloc_new (w.alloc (.cells #[.slice A 4 c] 36)) (.cells zeros52 97))
  have hb2 := Lib.hid (heap_alloc_new ((w.alloc (.cells #[.slice A 4 c] 36)).alloc (.cells zeros52 97)) (.cells zeros52 97))
  go_wp2
  go_loopw [9] (fun i wr => ∃ k : Nat, k ≤ 52 ∧ i = .int .i64 k ∧ HeldI wr (w.heap.size + 1 + 1) (fun x => if x < k then -1 else 0) ∧ Hid (wr.heap[w.heap.size]? = some (.cells #[.slice A 4 c] 36 (0, 0))) ∧ Hid (wr.heap[w.heap.size + 1]? = some (.cells zeros52 97 (0, 0))) ∧ Chg w wr 0 0) (fun i _ => 52 - (intOf i).toNat)
  case atStart =>
    have e1 : (w.alloc (.cells #[.slice A 4 c] 36)).heap.size = w.heap.size + 1 := by simp
    have e2 : ((w.alloc (.cells #[.slice A 4 c] 36)).alloc (.cells zeros52 97)).heap.size = w.heap.size + 1 + 1 := by simp
    have q2 := hb2.out
    have q1 := hb1.out
    rw [e2, zeros52_eq] at q2
    rw [e1] at q1
    refine ⟨0, Nat.zero_le _, rfl, (HeldI.of_row (by rw [← zeros52_eq] at q2 ⊢; exact q2)).of_eq (f := fun _ => 0) (fun x h0 _ => by rw [if_neg (by omega)]), ?_, ?_, ((Chg.of_alloc _ _ _ _).trans (Chg.of_alloc _ _ _ _)).trans (Chg.of_alloc _ _ _ _)⟩
    · exact (Below.heap_alloc _ _ _ (by simp; try omega)).trans ((Below.heap_alloc _ _ _ (by simp)).trans hb0.out)
    · exact (Below.heap_alloc _ _ _ (by simp; try omega)).trans q1
  case round =>
    clear hb0 hb1 hb2
    obtain ⟨k, hk, rfl, hh, hx0, hx1, hch⟩ := hrel
    by_cases hlt : k < 52
    · have hkl : (k : Int) < 52 := by omega
      have hc := hh.cell (k : Int) (by omega) (by omega)
      have hp := hh.put (k : Int) (-1) (by omega) (by omega) (f' := fun x => if x < ((k + 1 : Nat) : Int) then -1 else 0) (fun x h0 h1 => by
        by_cases e : x = k
        · rw [if_pos e, if_pos (by omega)]
        · rw [if_neg e]
          by_cases e2 : x < k
          · rw [if_pos e2, if_pos (by omega)]
          · rw [if_neg e2, if_neg (by omega)])
      rw [show ((k : Int)).toNat = k by omega] at hc hp
      obtain ⟨hc1, hf1⟩ := hc
      have hx0' : Hid ((wr.setCell ⟨w.heap.size + 1 + 1, k, none⟩ (.int .i64 (-1))).heap[w.heap.size]? = some (.cells #[.slice A 4 c] 36 (0, 0))) := (Below.heap_setCell _ _ _ _ (by show w.heap.size ≠ w.heap.size + 1 + 1; omega)).trans hx0.out
      have hx1' : Hid ((wr.setCell ⟨w.heap.size + 1 + 1, k, none⟩ (.int .i64 (-1))).heap[w.heap.size + 1]? = some (.cells zeros52 97 (0, 0))) := (Below.heap_setCell _ _ _ _ (by show w.heap.size + 1 ≠ w.heap.size + 1 + 1; omega)).trans hx1.out
      have hch' := hch.cell (g := w.heap.size + 1 + 1) (i := k) (v := .int .i64 (-1)) (by omega)
      clear hh hch hx0 hx1
      go_wp2
      go_roundw
      case rel => exact ⟨k + 1, by omega, by go_num, hp, hx0', hx1', hch'⟩
      case measure => simp [intOf]; omega
    · obtain rfl : k = 52 := by omega
      have h2 := hh.of_eq (f' := valTo zss 0 0) (fun x h0 h1 => by rw [valTo_zero, if_pos (by omega)])
      have q0 : wr.cell? ⟨w.heap.size, 0, none⟩ = some (.slice A 4 c) := by rw [cell_of_row _ _ _ _ _ _ hx0.out]; rfl
      clear hh
      go_wp2
      clear q0
      go_loopw [18] (fun i wr => ∃ s : Nat, s ≤ 4 ∧ i = .int .i64 s ∧ HeldI wr (w.heap.size + 1 + 1) (valTo zss s 0) ∧ Hid (wr.heap[w.heap.size + 1]? = some (.cells zeros52 97 (0, 0))) ∧ Chg w wr 0 0) (fun i _ => 4 - (intOf i).toNat)
      case atStart => exact ⟨0, Nat.zero_le _, rfl, h2, hx1, hch⟩
      case round =>
        clear h2 hx1 hch hx0
        obtain ⟨s, hs, rfl, hh, hx1, hch⟩ := hrel
        by_cases hlt : s < 4
        · have hsl : (s : Int) < 4 := by omega
          obtain ⟨b, off, B, C, rfl, _, _, hcw, hrw, hle, hnil⟩ := h.at_ hlt
          have hcr := box_still hcw hch
          have h13 := Lib.hid (hand_len (HR.out s hlt).1)
          have h51 := Lib.hid ((hand_iff _).1 (HR.out s hlt).1).2.2
          have HV := Lib.hid (fun i hi x => valTo_succ (zss := zss) (s := s) (i := i) hi x)
          have HN := Lib.hid (fun x => valTo_next zss s x)
          generalize hrow : zss.getD s [] = row at hcr hrw h13 h51 HV HN
          have KW := Lib.hid hrw
          have KL : row.length ≤ 13 := h13.out
          clear hcw hrw hle hnil hrow h13
          obtain ⟨wo, hwo⟩ : ∃ wo, wo = wr := ⟨wr, rfl⟩
          subst hwo
          go_wp2
          clear hcr
          go_loopw [25] (fun x wr => ∃ i : Nat, i ≤ row.length ∧ x = .int .i64 i ∧ HeldI wr (w.heap.size + 1 + 1) (valTo zss s i) ∧ Hid (wr.heap[w.heap.size + 1]? = some (.cells zeros52 97 (0, 0))) ∧ Chg w wr 0 0) (fun x _ => row.length - (intOf x).toNat)
          case atStart => exact ⟨0, Nat.zero_le _, rfl, hh, hx1, hch⟩
          case round =>
            clear hh hx1 hch
            obtain ⟨i, hi, rfl, hh, hx1, hch⟩ := hrel
            by_cases hil : i < row.length
            · have hiI : (i : Int) < (row.length : Int) := by omega
              obtain ⟨rb, ro, rfl, _, _, hrc⟩ := (KW.out.still hch).2 (by omega)
              have hrcell := hrc i hil
              have hz51 := h51.out (row.getD i 0) (by rw [getD_at _ _ hil]; exact List.getElem_mem _)
              have hv := Lib.hid (HV.out i hil)
              generalize row.getD i 0 = z at hrcell hz51 hv
              obtain ⟨z0, z1⟩ := hz51
              have z2 : z < 52 := by omega
              have hc := hh.cell z z0 z1
              obtain ⟨hc1, hf1⟩ := hc
              have hp := hh.put z (s : Int) z0 z1 (f' := valTo zss s (i + 1)) (fun x _ _ => hv.out x)
              have hx1' : Hid ((wr.setCell ⟨w.heap.size + 1 + 1, z.toNat, none⟩ (.int .i64 (s : Int))).heap[w.heap.size + 1]? = some (.cells zeros52 97 (0, 0))) := (Below.heap_setCell _ _ _ _ (by show w.heap.size + 1 ≠ w.heap.size + 1 + 1; omega)).trans hx1.out
              have hch' := hch.cell (g := w.heap.size + 1 + 1) (i := z.toNat) (v := .int .i64 (s : Int)) (by omega)
              clear hh hch hx1 hrc hv
              go_wp2
              go_roundw
              case rel => exact ⟨i + 1, by omega, by go_num, hp, hx1', hch'⟩
              case measure => simp [intOf]; omega
            · obtain rfl : i = row.length := by omega
              have h2 := hh.of_eq (f' := valTo zss (s + 1) 0) (fun x _ _ => HN.out x)
              clear hh
              go_wp2
              go_roundw
              case rel => exact ⟨s + 1, by omega, by go_num, h2, hx1, hch⟩
              case measure => simp [intOf]; omega
        · obtain rfl : s = 4 := by omega
          have k1 := Lib.hid (hh.of_eq (f' := holderF zss) (fun x _ _ => (valTo_all HD.out x).symm)).row
          have hg2 := Lib.hid (setRow_heap _ _ _ (holdA (holderF zss)) _ _ hx1.out)
          have hcf := Lib.hid (hch.row5 (Nat.le_succ _) (holdA (holderF zss)))
          have hzs : Hid (zeros52.size = (holdA (holderF zss)).size) := by show _ = _; rw [holdA_size]; rfl
          clear hh hch
          go_wp2_with (first | (refine wpList_load_row rfl 97 _ rfl (w.heap.size + 1 + 1) rfl 97 (holdA (holderF zss)) (0, 0) _ k1.out Try.underlying97 rfl (hold_info _) ?_) | (refine wpList_store_row rfl 97 _ _ rfl (w.heap.size + 1) (holdA (holderF zss)) rfl rfl 97 _ hx1.out (hold_info _) hzs.out (hold_cells _) ?_))
          refine bodyPost_ret (v := .agg (holdA (holderF zss))) (results_cell_row Try.results97 _ _ (w.heap.size + 1) 97 (holdA (holderF zss)) (0, 0) _ rfl hg2.out Try.underlying97 rfl (hold_info _)) rfl ?_
          exact ⟨rfl, hcf.out⟩

set_option maxHeartbeats 1000000 in
theorem relativeCard (f : Int → Int) (c : Int) (w : World) (h0 : 0 ≤ c) (h1 : c ≤ 51) (hf : ∀ x, f x = -1 ∨ 0 ≤ f x) :
    Calls Try.prog 99 #[.agg (holdA f), .int .i64 c] w fun e w' => e = .returned (.int .i64 (relF f c)) ∧ Chg w w' 0 0 := by
  have hbx := Lib.hid (heap_alloc_new w (.cells (holdA f) 97))
  have hca := Lib.hid (Chg.of_alloc w (.cells (holdA f) 97) 0 0)
  generalize hR : holdA f = R at hbx hca
  have HH : Hid (HeldI (w.alloc (.cells R 97)) w.heap.size f) := HeldI.of_row (by rw [hR]; exact hbx.out)
  clear hbx hR
  obtain ⟨q, hq⟩ : ∃ q : Nat, c / 13 = q := ⟨(c / 13).toNat, by omega⟩
  obtain ⟨m, hm⟩ : ∃ m : Nat, (12 - c % 13).toNat = m := ⟨_, rfl⟩
  have hm12 : c + m = 13 * (q : Int) + 12 := by omega
  have hrl : Hid (relF f c = 13 * (q : Int) + (12 - ((ascF f m (c + 1)).length : Int))) := by show _ = _; rw [relF, hq, hm]
  have hS : ∀ W, Calls Try.prog 82 #[.int .i64 c] W fun e w' => e = .returned (.int .i64 (q : Int)) ∧ W = w' := fun W => by have := suit c W h0 h1; rwa [hq] at this
  have hT : ∀ W, Calls Try.prog 104 #[.int .i64 (q : Int), .int .i64 12] W fun e w' => e = .returned (.int .i64 (13 * (q : Int) + 12)) ∧ W = w' := fun W => by have := impl_CardOf (q : Int) 12 W; rwa [cardV_yes (by omega)] at this
  have hL : ∀ r : Int, 0 ≤ r → r ≤ 12 → ∀ W, Calls Try.prog 104 #[.int .i64 (q : Int), .int .i64 r] W fun e w' => e = .returned (.int .i64 (13 * (q : Int) + r)) ∧ W = w' := fun r r0 r1 W => by have := impl_CardOf (q : Int) r W; rwa [cardV_yes (by omega)] at this
  have hm13 : m ≤ 12 := by omega
  clear hq hm
  go_enter Try.func99, Try.ntmps99
  go_wp2_with (go_at_call 82; refine (hS _).mono ?_; rintro e w' ⟨rfl, rfl⟩)
  generalize w.alloc (.cells R 97) = w0 at HH hca
  go_loop [6, 7] (fun r x => ∃ k : Nat, k ≤ m ∧ x = .int .i64 (c + 1 + k) ∧ r = .int .i64 (12 - ((ascF f k (c + 1)).length : Int))) (fun _ x => (13 * (q : Int) + 13 - intOf x).toNat)
  case atStart => exact ⟨0, Nat.zero_le _, by simp, by simp [ascF]⟩
  case round =>
    obtain ⟨k, hk, rfl, rfl⟩ := hrel
    have hlen := ascF_len f k (c + 1)
    by_cases hlt : k < m
    · have hle : c + 1 + (k : Int) ≤ 13 * (q : Int) + 12 := by omega
      have i0 : 0 ≤ c + 1 + (k : Int) := by omega
      have i1 : c + 1 + (k : Int) < 52 := by omega
      obtain ⟨hc1, _⟩ := HH.out.cell (c + 1 + (k : Int)) i0 (by omega)
      have hs := Lib.hid (ascF_snoc f k (c + 1))
      have hcase := hf (c + 1 + (k : Int))
      generalize f (c + 1 + (k : Int)) = v at hc1 hs hcase
      rcases hcase with rfl | hv
      · have hL1 : Hid ((ascF f (k + 1) (c + 1)).length = (ascF f k (c + 1)).length) := by show _ = _; rw [hs.out, if_neg (by omega), List.append_nil]
        generalize (ascF f k (c + 1)).length = L at hlen hL1
        go_wp2_with (go_at_call 104; refine (hT _).mono ?_; rintro e w' ⟨rfl, rfl⟩)
        go_round
        case rel => exact ⟨k + 1, by omega, by go_num, by rw [hL1.out]⟩
        case measure => simp [intOf]; omega
      · have hL1 : Hid ((ascF f (k + 1) (c + 1)).length = (ascF f k (c + 1)).length + 1) := by show _ = _; rw [hs.out, if_pos hv, List.length_append]; rfl
        have hne : ¬ v = -1 := by omega
        have hneb : (v == -1) = false := by simpa using hne
        generalize (ascF f k (c + 1)).length = L at hlen hL1
        go_wp2_with (go_at_call 104; refine (hT _).mono ?_; rintro e w' ⟨rfl, rfl⟩)
        go_round
        case rel => exact ⟨k + 1, by omega, by go_num, by rw [hL1.out]; go_num⟩
        case measure => simp [intOf]; omega
    · obtain rfl : k = m := by omega
      have hgt : ¬ c + 1 + (k : Int) ≤ 13 * (q : Int) + 12 := by omega
      generalize (ascF f k (c + 1)).length = L at hlen hrl
      have hLL := hL (12 - (L : Int)) (by omega) (by omega)
      go_wp2_with fail
      refine (hT _).mono ?_
      rintro e w' ⟨rfl, rfl⟩
      go_wp2_with fail
      refine (hLL _).mono ?_
      rintro e w' ⟨rfl, rfl⟩
      go_wp2_with fail
      go_ret
      exact ⟨ret_int hrl.out.symm, hca.out⟩
end

section
open Go.RowKit
set_option maxRecDepth 100000

/-- A function hands back rows of its own. -/
def RetQ (w : World) (zss : List (List Int)) (e : Ending) (w' : World) : Prop := ∃ v, e = .returned v ∧ OwnVQ w' w.heap.size v zss ∧ Below w.heap.size w w'
theorem OwnVQ.more {w : World} {base base' : Nat} {v : Value} {zss : List (List Int)} (h : OwnVQ w base v zss) (hb : base' ≤ base) : OwnVQ w base' v zss := by
  obtain ⟨vs, h1, h2, h3⟩ := h
  refine ⟨vs, ⟨h1.1, ?_⟩, fun j hj => (h2 j hj).more hb, h3⟩
  rcases h1.2 with q | ⟨g, cap, cur, e, hg, r⟩
  · exact .inl q
  · exact .inr ⟨g, cap, cur, e, Nat.le_trans hb hg, r⟩
theorem runsS_zero (f : Int → Int) (s : Int) : runsR (fun x => decide (f x = s)) (ascF f 0 0).reverse = [] := rfl
theorem runs_count (p : Int → Bool) : ∀ l : List Int, (runsR p l).length ≤ l.length
  | [] => Nat.le_refl _
  | x :: l => by
    have := runs_count p l
    rw [runsR]
    split
    · split
      · simp [pushLast]; omega
      · simp; omega
    · simp; omega
theorem runsTo_count (f : Int → Int) (s : Int) : ∀ q, (runsTo f s q).length ≤ 13 * q
  | 0 => Nat.le_refl _
  | q + 1 => by
    have := runsTo_count f s q
    have h1 := runs_count (fun x => decide (f x = s)) (suitA f q).reverse
    have h2 := ascF_len f 13 (13 * (q : Int))
    rw [List.length_reverse] at h1
    rw [runsTo, List.length_append]
    have h3 : (runsS f s q).length ≤ 13 := Nat.le_trans h1 h2
    omega

theorem runs_row (p : Int → Bool) {l r : List Int} (hr : r ∈ runsR p l) : r.length ≤ l.length := by
  have h1 : r.length ≤ (runsR p l).flatten.length := (List.sublist_flatten_of_mem hr).length_le
  rw [runs_flat] at h1
  have h2 := List.length_filter_le p l.reverse
  rw [List.length_reverse] at h2
  omega
theorem runsS_row {f : Int → Int} {s : Int} {q : Nat} {r : List Int} (hr : r ∈ runsS f s q) : r.length ≤ 13 := by
  have := runs_row _ hr
  have h2 := ascF_len f 13 (13 * (q : Int))
  rw [List.length_reverse] at this
  exact Nat.le_trans this h2
theorem runsTo_row {f : Int → Int} {s : Int} {q : Nat} {r : List Int} (hr : r ∈ runsTo f s q) : r.length ≤ 13 := by
  obtain ⟨q, _, h⟩ := mem_runsTo hr
  exact runsS_row h
theorem getD_len {gs : List (List Int)} {n : Nat} (h : ∀ r ∈ gs, r.length ≤ n) (j : Nat) : (gs.getD j []).length ≤ n := by
  by_cases hj : j < gs.length
  · rw [getD_row hj]; exact h _ (List.getElem_mem _)
  · rw [List.getD_eq_getElem?_getD, List.getElem?_eq_none (by omega)]; simp
def stepQ (x s : Int) (gs : List (List Int)) (o : Bool) (c : Int) : List (List Int) × Bool :=
  if x = -1 then (gs, o) else if x = s then ((if o then pushLast gs c else gs ++ [[c]]), true) else (gs, false)
theorem stepG_Q (f : Int → Int) (s : Int) (gs : List (List Int)) (o : Bool) (c : Int) : stepG f s gs o c = stepQ (f c) s gs o c := rfl

/-! ### GroupsOf -/
def RetQI (w : World) (zss : List (List Int)) (k : Int) (e : Ending) (w' : World) : Prop :=
  ∃ A c, e = .returned (.tuple #[.slice A zss.length c, .int .i64 k]) ∧ zss.length ≤ c ∧ OwnR w' w.heap.size w'.heap.size A zss.length zss ∧ Chg w w' 0 0
theorem RetQI.of_eq {w w' : World} {zss zss' : List (List Int)} {k k' : Int} {e : Ending} (h1 : zss' = zss) (h2 : k' = k) (h : RetQI w zss k e w') : RetQI w zss' k' e w' := by subst h1; subst h2; exact h


end

end Go.Proofs.Yteojdlacdnfgiaa.Lib1
