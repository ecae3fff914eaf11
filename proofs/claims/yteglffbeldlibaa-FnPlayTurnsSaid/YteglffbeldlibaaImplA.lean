/- Chapter 3: the program's IsDeal, HolderOf, CardsOfDeal, isSuitOrder. -/
import Derived.Test.YteglffbeldlibaaS03t
import Derived.Test.YteglffbeldlibaaMapE
import Derived.Test.YteglffbeldlibaaLists3
namespace Go.Proofs.Yteglffbeldlibaa.Lib1
open Go.RowKit
set_option maxRecDepth 100000

/-- The marks of the cards that were met, in an array. -/
def Held (w : World) (g : Nat) (L : List Int) : Prop := ∃ cs : Array Value, w.heap[g]? = some (.cells cs 150 (0, 0)) ∧ ∀ c : Nat, c < 52 → cs[c]? = some (.bool (decide ((c : Int) ∈ L)))
theorem Held.cell {w : World} {g : Nat} {L : List Int} (h : Held w g L) (c : Int) (h0 : 0 ≤ c) (h1 : c ≤ 51) : w.cell? ⟨g, c.toNat, none⟩ = some (.bool (decide (c ∈ L))) ∧ w.frozen? ⟨g, c.toNat, none⟩ = false := by
  obtain ⟨cs, hg, hc⟩ := h
  have e : ((c.toNat : Nat) : Int) = c := by omega
  refine ⟨?_, by simp [World.frozen?, hg]⟩
  rw [cell_of_row w g _ cs _ _ hg, hc c.toNat (by omega), e]
theorem Held.put {w : World} {g : Nat} {L : List Int} (h : Held w g L) (c : Int) (h0 : 0 ≤ c) (h1 : c ≤ 51) : Held (w.setCell ⟨g, c.toNat, none⟩ (.bool true)) g (L ++ [c]) := by
  obtain ⟨cs, hg, hc⟩ := h
  refine ⟨cs.setIfInBounds c.toNat (.bool true), by simp [World.setCell, Array.getElem?_modify, hg], fun k hk => ?_⟩
  have hk' := hc k hk
  have hlt : k < cs.size := by
    rcases Nat.lt_or_ge k cs.size with h | h
    · exact h
    · rw [Array.getElem?_eq_none h] at hk'; cases hk'
  rw [Array.getElem?_setIfInBounds]
  by_cases e : c.toNat = k
  · have : (k : Int) = c := by omega
    simp [e, hlt, this]
  · have : (k : Int) ≠ c := by omega
    rw [if_neg e, hk']
    simp [this]
def noneHeld : Array Value := #[.bool false, .bool false, .bool false, .bool false, .bool false, .bool false, .bool false, .bool false, .bool false, .bool false, .bool false, .bool false, .bool false, .bool false, .bool false, .bool false, .bool false, .bool false, .bool false, .bool false, .bool false, .bool false, .bool false, .bool false, .bool false, .bool false, .bool false, .bool false, .bool false, .bool false, .bool false, .bool false, .bool false, .bool false, .bool false, .bool false, .bool false, .bool false, .bool false, .bool false, .bool false, .bool false, .bool false, .bool false, .bool false, .bool false, .bool false, .bool false, .bool false, .bool false, .bool false, .bool false]
theorem noneHeld_eq : noneHeld = Array.replicate 52 (.bool false) := by kernel_rfl
theorem noneHeld_at (k : Nat) (hk : k < 52) : noneHeld[k]? = some (.bool false) := by
  rw [noneHeld_eq, Array.getElem?_replicate, if_pos hk]
theorem Held.start (w : World) (o : Obj) : Held ((w.alloc o).alloc (.cells noneHeld 150)) (w.heap.size + 1) [] := by
  have h := heap_alloc_new (w.alloc o) (.cells noneHeld 150)
  simp only [World.size_alloc] at h
  refine ⟨_, h, fun c hc => ?_⟩
  rw [noneHeld_at c hc]
  simp

set_option maxHeartbeats 2000000 in
theorem isDeal (A : Option Addr) (n c : Nat) (zss : List (List Int)) (lo hi : Nat) (w : World) (h : RdR w lo hi A n zss) :
    Calls Try.prog 99 #[.agg #[.slice A n c]] w fun e w' => e = .returned (.bool (dealB zss)) ∧ Chg w w' 0 0 := by
  have hz := h.1
  by_cases h4 : n = 4
  · subst h4
    have hbx := Lib.hid (heap_alloc_new w (.cells #[.slice A 4 c] 26))
    have hs0 := Lib.hid (Held.start w (.cells #[.slice A 4 c] 26))
    go_enter Try.func99, Try.ntmps99
    go_wp2
    go_loopw [15] (fun i wr => ∃ s : Nat, s ≤ 4 ∧ i = .int .i64 s ∧ Hid (rowsTo zss s) ∧ Hid ((cardsTo zss s 0).Nodup) ∧ Held wr (w.heap.size + 1) (cardsTo zss s 0) ∧ Hid (wr.heap[w.heap.size]? = some (.cells #[.slice A 4 c] 26 (0, 0))) ∧ Chg w wr 0 0) (fun i _ => 4 - (intOf i).toNat)
    case atStart => exact ⟨0, by omega, rfl, fun t ht => by omega, by rw [cardsTo_zero]; exact List.nodup_nil, by rw [cardsTo_zero]; exact hs0.out, (Below.heap_alloc _ _ _ (by simp)).trans hbx.out, (Chg.of_alloc _ _ _ _).trans (Chg.of_alloc _ _ _ _)⟩
    case round =>
      obtain ⟨s, hs, rfl, hrow, hnd, hseen, hbox, hch⟩ := hrel
      by_cases hlt : s < 4
      · have hsl : (s : Int) < 4 := by omega
        obtain ⟨b, off, B, C, rfl, _, _, hcw, hrw0, _, _⟩ := h.at_ hlt
        obtain ⟨b0, off0, B0, C0, e0, _, _, hcw0, _, _, _⟩ := h.at_ (show 0 < 4 by omega)
        injection e0 with e0
        injection e0 with e1 e2 _
        subst e1; subst e2
        rw [Nat.add_zero] at hcw0
        have hcell : wr.cell? ⟨b, off + s, none⟩ = some (.slice B (zss.getD s []).length C) := by rw [World.cell?_of_block (hch.block _ (lt_of_cell hcw) (.inr (Nat.zero_le _)))]; exact hcw
        have hcell0 : wr.cell? ⟨b, off, none⟩ = some (.slice B0 (zss.getD 0 []).length C0) := by rw [World.cell?_of_block (hch.block _ (lt_of_cell hcw0) (.inr (Nat.zero_le _)))]; exact hcw0
        have hrd := hrw0.still hch
        have hbc : wr.cell? ⟨w.heap.size, 0, none⟩ = some (.slice (some ⟨b, off, none⟩) 4 c) := by rw [cell_of_row _ _ _ _ _ _ hbox.out]; rfl
        have KR := Lib.hid hrw0
        clear hcw0 hcw hrw0
        have hsz := Lib.hid (show s < zss.length by omega)
        have HF := Lib.hid (fun x => deal_row (zss := zss) hlt x)
        have HT := Lib.hid (fun i hi hm => deal_twice (zss := zss) (s := s) (i := i) (by omega) hi hm)
        have HS := Lib.hid (fun i hi => cardsTo_succ (zss := zss) (s := s) (i := i) hi)
        have HN := Lib.hid (cardsTo_next (zss := zss) (s := s) (by omega))
        have HR := Lib.hid (fun h1 h2 => rowsTo_succ (zss := zss) (s := s) hrow.out h1 h2)
        generalize hrw : zss.getD s [] = row at hcell hrd HF HT HS HN HR KR
        generalize hn0 : (zss.getD 0 []).length = n0 at hcell0 HF HR
        clear hrw hn0
        have hIs := impl_IsHand B row.length C row _ _ wr hrd
        cases hh : handB row with
        | false =>
          have hf : Hid (dealB zss = false) := HF.out (fun x => by rw [hh] at x; exact absurd x.1 (by simp))
          rw [hh] at hIs
          clear hh
          go_wp2_with (go_at_call 136; refine hIs.mono ?_; rintro e w' ⟨rfl, rfl⟩)
          go_ret
          exact ⟨ret_bool hf.out.symm, hch⟩
        | true =>
          rw [hh] at hIs
          by_cases hlen : row.length = n0
          · have hr1 := Lib.hid (HR.out hh hlen)
            have h51 := Lib.hid ((hand_iff row).1 hh).2.2
            have h13 := ((hand_iff row).1 hh).1
            subst hlen
            clear hh HF HR
            obtain ⟨wo, hwo⟩ : ∃ wo, wo = wr := ⟨wr, rfl⟩
            subst hwo
            have hIs' := Lib.hid hIs
            clear hIs
            go_wp2_with (go_at_call 136; refine hIs'.out.mono ?_; rintro e w' ⟨rfl, rfl⟩)
            clear hcell hcell0 hbc hrd hIs'
            go_loopw [34] (fun x wr => ∃ i : Nat, i ≤ row.length ∧ x = .int .i64 i ∧ Hid ((cardsTo zss s i).Nodup) ∧ Held wr (w.heap.size + 1) (cardsTo zss s i) ∧ Hid (wr.heap[w.heap.size]? = some (.cells #[.slice (some ⟨b, off, none⟩) 4 c] 26 (0, 0))) ∧ Chg w wr 0 0) (fun x _ => row.length - (intOf x).toNat)
            case atStart => exact ⟨0, Nat.zero_le _, rfl, hnd, hseen, hbox, hch⟩
            case round =>
              clear hnd hseen hbox hch
              obtain ⟨i, hi, rfl, hnd, hseen, hbox, hch⟩ := hrel
              by_cases hil : i < row.length
              · have hiI : (i : Int) < (row.length : Int) := by omega
                obtain ⟨rb, ro, rfl, _, _, hrc⟩ := (KR.out.still hch).2 (by omega)
                have hrcell := hrc i hil
                have hz51 := h51.out (row.getD i 0) (by rw [getD_at _ _ hil]; exact List.getElem_mem _)
                have hsu := Lib.hid (HS.out i hil)
                have htw := Lib.hid (HT.out i hil)
                have hsc := hseen.cell (row.getD i 0) hz51.1 hz51.2
                have hsp := hseen.put (row.getD i 0) hz51.1 hz51.2
                have hcp := hch.cell (g := w.heap.size + 1) (i := (row.getD i 0).toNat) (v := .bool true) (by omega)
                have hbp : Hid ((wr.setCell ⟨w.heap.size + 1, (row.getD i 0).toNat, none⟩ (.bool true)).heap[w.heap.size]? = some (.cells #[.slice (some ⟨b, off, none⟩) 4 c] 26 (0, 0))) := (Below.heap_setCell _ _ _ _ (by show w.heap.size ≠ w.heap.size + 1; omega)).trans hbox.out
                generalize row.getD i 0 = z at hrcell hz51 hsu htw hsc hsp hcp hbp
                obtain ⟨z0, z1⟩ := hz51
                have z2 : z < 52 := by omega
                obtain ⟨hsc, hsf⟩ := hsc
                by_cases hm : z ∈ cardsTo zss s i
                · have hf := Lib.hid (htw.out hm)
                  have hd : decide (z ∈ cardsTo zss s i) = true := by simpa using hm
                  rw [hd] at hsc
                  clear hm hsp hcp hbp hrc
                  go_wp2
                  go_ret
                  exact ⟨ret_bool hf.out.symm, hch⟩
                · have hd : decide (z ∈ cardsTo zss s i) = false := by simpa using hm
                  have hnd2 : Hid ((cardsTo zss s (i + 1)).Nodup) := by show List.Nodup _; rw [hsu.out]; exact nodup_snoc hnd.out hm
                  rw [hd] at hsc
                  rw [← hsu.out] at hsp
                  clear hm hrc hseen
                  go_wp2
                  go_roundw
                  case rel => exact ⟨i + 1, by omega, by go_num, hnd2, hsp, hbp, hcp⟩
                  case measure => simp [intOf]; omega
              · obtain rfl : i = row.length := by omega
                rw [HN.out] at hnd hseen
                go_wp2
                go_roundw
                case rel => exact ⟨s + 1, by omega, by go_num, hr1, hnd, hseen, hbox, hch⟩
                case measure => simp [intOf]; omega
          · have hf : Hid (dealB zss = false) := HF.out (fun x => hlen x.2)
            have hne : ((row.length : Int) == (n0 : Int)) = false := by simp; omega
            clear hh hlen
            go_wp2_with (go_at_call 136; refine hIs.mono ?_; rintro e w' ⟨rfl, rfl⟩)
            go_ret
            exact ⟨ret_bool hf.out.symm, hch⟩
      · obtain rfl : s = 4 := by omega
        rw [cardsTo_all hz] at hnd
        have hf := Lib.hid (deal_yes hz hrow.out hnd.out)
        go_wp2
        go_ret
        exact ⟨ret_bool hf.out.symm, hch⟩
  · rw [deal_len (by omega)]
    have hne : ((n : Int) == 4) = false := by simp; omega
    go_enter Try.func99, Try.ntmps99
    go_wp2
    go_ret
    exact ⟨rfl, Chg.of_alloc _ _ _ _⟩


end Go.Proofs.Yteglffbeldlibaa.Lib1
