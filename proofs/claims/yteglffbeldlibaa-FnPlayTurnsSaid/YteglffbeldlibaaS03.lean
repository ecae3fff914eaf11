/- Chapter 3: the model's functions over a deal: l03Deal, l03Holder, l03Cards. -/
import Derived.Test.YteglffbeldlibaaL03
import Derived.Test.YteglffbeldlibaaNests
import Derived.Test.YteglffbeldlibaaBase1
import Derived.Test.YteglffbeldlibaaBase2
import Derived.Test.YteglffbeldlibaaTwo
namespace Go.Proofs.Yteglffbeldlibaa.Lib1
open Go.RowKit
set_option maxRecDepth 100000

/-- The marks of the cards that were met. -/
def Seen (w : World) (g : Nat) (L : List Int) : Prop := ∃ cs : Array Value, w.heap[g]? = some (.cells cs 4 (0, 0)) ∧ ∀ c : Nat, c < 52 → cs[c]? = some (.bool (decide ((c : Int) ∈ L)))
theorem Seen.cell {w : World} {g : Nat} {L : List Int} (h : Seen w g L) (c : Int) (h0 : 0 ≤ c) (h1 : c ≤ 51) : w.cell? ⟨g, c.toNat, none⟩ = some (.bool (decide (c ∈ L))) ∧ w.frozen? ⟨g, c.toNat, none⟩ = false := by
  obtain ⟨cs, hg, hc⟩ := h
  have e : ((c.toNat : Nat) : Int) = c := by omega
  refine ⟨?_, by simp [World.frozen?, hg]⟩
  rw [cell_of_row w g _ cs _ _ hg, hc c.toNat (by omega), e]
theorem Seen.still {w w' : World} {g : Nat} {L : List Int} (h : Seen w g L) (c : Chg w w' 0 0) : Seen w' g L := by
  obtain ⟨cs, hg, hc⟩ := h
  exact ⟨cs, (c.block g (lt_of_block hg) (.inr (Nat.zero_le _))).trans hg, hc⟩
theorem Seen.put {w : World} {g : Nat} {L : List Int} (h : Seen w g L) (c : Int) (h0 : 0 ≤ c) (h1 : c ≤ 51) : Seen (w.setCell ⟨g, c.toNat, none⟩ (.bool true)) g (L ++ [c]) := by
  obtain ⟨cs, hg, hc⟩ := h
  refine ⟨cs.setIfInBounds c.toNat (.bool true), by simp [World.setCell, Array.getElem?_modify, hg], fun k hk => ?_⟩
  have hk' := hc k hk
  have hlt : k < cs.size := by
    rcases Nat.lt_or_ge k cs.size with h | h
    · exact h
    · rw [Array.getElem?_eq_none h] at hk'; cases hk'
  rw [Array.getElem?_setIfInBounds]
  by_cases e : c.toNat = k
  · have : (k : Int) = c := by omega
    simp [e, hlt, this]
  · have : (k : Int) ≠ c := by omega
    rw [if_neg e, hk']
    simp [this]
theorem quiet_eq' {P : Program} {f : FuncId} {args : Array Value} {w : World} {n : Nat} {v : Value}
    (h : Calls P f args (w.drewN n) fun e w' => e = .returned v ∧ ∃ q, w' = (w.drewN n).drewN q) :
    Calls P f args (w.drewN n) fun e w'' => e = .returned v ∧ ∃ m, w'' = w.drewN m :=
  h.mono fun _ _ ⟨he, q, hm⟩ => ⟨he, n + q, by rw [hm]; simp [World.drewN, Nat.add_assoc]⟩
theorem madeCells_at : ∀ k : Nat, k < 52 → (madeCells #[.bool false] 52)[k]? = some (.bool false) := by
  intro k hk
  have e : k % 1 = 0 := Nat.mod_one k
  simp [madeCells, hk, e]
theorem Seen.start (w : World) (o : Obj) : Seen ((w.alloc o).alloc (.cells (madeCells #[.bool false] 52) 4)) (w.heap.size + 1) [] := by
  have h := heap_alloc_new (w.alloc o) (.cells (madeCells #[.bool false] 52) 4)
  simp only [World.size_alloc] at h
  refine ⟨_, h, fun c hc => ?_⟩
  rw [madeCells_at c hc]
  simp
theorem bools_info : (Try.prog.info? 4).map (fun i => (i.zero, i.size, i.bytes)) = some (some (.bool false), 1, 1) := by kernel_rfl

set_option maxHeartbeats 2000000 in
/-- spec.l03Deal -/
theorem l03Deal (A : Option Addr) (n c : Nat) (zss : List (List Int)) (lo hi : Nat) (w : World) (h : RdR w lo hi A n zss) (hl : ∀ j, j < n → (zss.getD j []).length ≤ 1048576) :
    Calls Try.prog 134 #[.agg #[.slice A n c]] w fun e w' => e = .returned (.bool (dealB zss)) ∧ Chg w w' 0 0 := by
  have hz := h.1
  by_cases h4 : n = 4
  · subst h4
    have hmk : ∀ W : World, (Instr.makeSlice 167 (.int .i64 52) (.int .i64 52)).run Try.prog W = .ok (.slice (some ⟨W.heap.size, 0, none⟩) 52 52) (W.alloc (.cells (madeCells #[.bool false] 52) 4)) := fun W => run_make_row' (P := Try.prog) 167 4 (.bool false) 1 Try.underlying167 bools_info rfl .i64 .i64 52 (by decide) (by decide) W
    have hbx := Lib.hid (heap_alloc_new w (.cells #[.slice A 4 c] 26))
    go_enter Try.func134, Try.ntmps134
    go_wp2
    clear hmk
    have hs0 := Lib.hid (Seen.start w (.cells #[.slice A 4 c] 26))
    go_loopw [4] (fun i wr => ∃ s : Nat, s ≤ 4 ∧ i = .int .i64 s ∧ Hid (rowsTo zss s) ∧ Hid ((cardsTo zss s 0).Nodup) ∧ Seen wr (w.heap.size + 1) (cardsTo zss s 0) ∧ Hid (wr.heap[w.heap.size]? = some (.cells #[.slice A 4 c] 26 (0, 0))) ∧ Chg w wr 0 0) (fun i _ => 4 - (intOf i).toNat)
    case atStart => exact ⟨0, by omega, rfl, fun t ht => by omega, by rw [cardsTo_zero]; exact List.nodup_nil, by rw [cardsTo_zero]; exact hs0.out, (Below.heap_alloc _ _ _ (by simp)).trans hbx.out, (Chg.of_alloc _ _ _ _).trans (Chg.of_alloc _ _ _ _)⟩
    case round =>
      obtain ⟨s, hs, rfl, hrow, hnd, hseen, hbox, hch⟩ := hrel
      by_cases hlt : s < 4
      · have hsl : (s : Int) < 4 := by omega
        obtain ⟨b, off, B, C, rfl, _, _, hcw, hrw0, _, _⟩ := h.at_ hlt
        obtain ⟨b0, off0, B0, C0, e0, _, _, hcw0, _, _, _⟩ := h.at_ (show 0 < 4 by omega)
        injection e0 with e0
        injection e0 with e1 e2 _
        subst e1; subst e2
        rw [Nat.add_zero] at hcw0
        have hcell : wr.cell? ⟨b, off + s, none⟩ = some (.slice B (zss.getD s []).length C) := by rw [World.cell?_of_block (hch.block _ (lt_of_cell hcw) (.inr (Nat.zero_le _)))]; exact hcw
        have hcell0 : wr.cell? ⟨b, off, none⟩ = some (.slice B0 (zss.getD 0 []).length C0) := by rw [World.cell?_of_block (hch.block _ (lt_of_cell hcw0) (.inr (Nat.zero_le _)))]; exact hcw0
        have hrd := hrw0.still hch
        have hbc : wr.cell? ⟨w.heap.size, 0, none⟩ = some (.slice (some ⟨b, off, none⟩) 4 c) := by rw [cell_of_row _ _ _ _ _ _ hbox.out]; rfl
        have KC := Lib.hid hcw
        have KR := Lib.hid hrw0
        clear hcw0 hcw hrw0
        have hle := hl s hlt
        have hsz := Lib.hid (show s < zss.length by omega)
        have HF := Lib.hid (fun x => deal_row (zss := zss) hlt x)
        have HT := Lib.hid (fun i hi hm => deal_twice (zss := zss) (s := s) (i := i) (by omega) hi hm)
        have HS := Lib.hid (fun i hi => cardsTo_succ (zss := zss) (s := s) (i := i) hi)
        have HN := Lib.hid (cardsTo_next (zss := zss) (s := s) (by omega))
        have HR := Lib.hid (fun h1 h2 => rowsTo_succ (zss := zss) (s := s) hrow.out h1 h2)
        have hc0 : Hid (cardsTo zss s 0 = cardsTo zss s 0) := rfl
        generalize hrw : zss.getD s [] = row at hcell hrd hle HF HT HS HN HR KC KR
        generalize hn0 : (zss.getD 0 []).length = n0 at hcell0 HF HR
        clear hrw hn0
        have hIs : ∀ q, Calls Try.prog 163 #[.slice B row.length C] (wr.drewN q) fun e w' => e = .returned (.bool (handB row)) ∧ ∃ m, w' = (wr.drewN q).drewN m := fun q => spec_IsHandQ B row.length C row _ _ _ (hrd.drewN q) hle
        cases hh : handB row with
        | false =>
          have hf : Hid (dealB zss = false) := HF.out (fun x => by rw [hh] at x; exact absurd x.1 (by simp))
          rw [hh] at hIs
          clear hh
          go_wp2
          go_quiet ((go_at_call 163; first | exact quiet_add' (hIs _) | exact quiet_eq' (hIs _)))
          go_wp2
          go_ret
          exact ⟨ret_bool hf.out.symm, hch.trans (Chg.drewN _ _ _ _)⟩
        | true =>
          rw [hh] at hIs
          by_cases hlen : row.length = n0
          · have hr1 := Lib.hid (HR.out hh hlen)
            have h51 := Lib.hid ((hand_iff row).1 hh).2.2
            subst hlen
            clear hh HF HR
            obtain ⟨wo, hwo⟩ : ∃ wo, wo = wr := ⟨wr, rfl⟩
            subst hwo
            go_wp2
            go_quiet ((go_at_call 163; first | exact quiet_add' (hIs _) | exact quiet_eq' (hIs _)))
            have hch2 := hch.trans (Chg.drewN wo nq 0 0)
            have hseen2 := hseen.still (Chg.drewN wo nq 0 0)
            have hbox2 : Hid ((wo.drewN nq).heap[w.heap.size]? = some (.cells #[.slice (some ⟨b, off, none⟩) 4 c] 26 (0, 0))) := hbox.out
            clear hch hseen hbox hcell hcell0 hbc hrd hIs
            generalize wo.drewN nq = w5 at hch2 hseen2 hbox2
            go_wp2
            go_loopw [5] (fun x wr => ∃ i : Nat, i ≤ row.length ∧ x = .int .i64 i ∧ Hid ((cardsTo zss s i).Nodup) ∧ Seen wr (w.heap.size + 1) (cardsTo zss s i) ∧ Hid (wr.heap[w.heap.size]? = some (.cells #[.slice (some ⟨b, off, none⟩) 4 c] 26 (0, 0))) ∧ Chg w wr 0 0) (fun x _ => row.length - (intOf x).toNat)
            case atStart => exact ⟨0, Nat.zero_le _, rfl, hnd, hseen2, hbox2, hch2⟩
            case round =>
              obtain ⟨i, hi, rfl, hnd, hseen, hbox, hch⟩ := hrel
              have hcell : wr.cell? ⟨b, off + s, none⟩ = some (.slice B row.length C) := by rw [World.cell?_of_block (hch.block _ (lt_of_cell KC.out) (.inr (Nat.zero_le _)))]; exact KC.out
              have hbc : wr.cell? ⟨w.heap.size, 0, none⟩ = some (.slice (some ⟨b, off, none⟩) 4 c) := by rw [cell_of_row _ _ _ _ _ _ hbox.out]; rfl
              by_cases hil : i < row.length
              · have hiI : (i : Int) < (row.length : Int) := by omega
                obtain ⟨rb, ro, rfl, _, _, hrc⟩ := (KR.out.still hch).2 (by omega)
                have hrcell := hrc i hil
                have hz51 := h51.out (row.getD i 0) (by rw [getD_at _ _ hil]; exact List.getElem_mem _)
                have hsu := Lib.hid (HS.out i hil)
                have htw := Lib.hid (HT.out i hil)
                have hsc := hseen.cell (row.getD i 0) hz51.1 hz51.2
                have hsp := hseen.put (row.getD i 0) hz51.1 hz51.2
                have hcp := hch.cell (g := w.heap.size + 1) (i := (row.getD i 0).toNat) (v := .bool true) (by omega)
                have hbp : Hid ((wr.setCell ⟨w.heap.size + 1, (row.getD i 0).toNat, none⟩ (.bool true)).heap[w.heap.size]? = some (.cells #[.slice (some ⟨b, off, none⟩) 4 c] 26 (0, 0))) := (Below.heap_setCell _ _ _ _ (by show w.heap.size ≠ w.heap.size + 1; omega)).trans hbox.out
                generalize row.getD i 0 = z at hrcell hz51 hsu htw hsc hsp hcp hbp
                obtain ⟨z0, z1⟩ := hz51
                have z2 : z < 52 := by omega
                obtain ⟨hsc, hsf⟩ := hsc
                by_cases hm : z ∈ cardsTo zss s i
                · have hf := Lib.hid (htw.out hm)
                  have hd : decide (z ∈ cardsTo zss s i) = true := by simpa using hm
                  rw [hd] at hsc
                  clear hm hsp hcp hbp hrc
                  go_wp2
                  go_ret
                  exact ⟨ret_bool hf.out.symm, hch⟩
                · have hd : decide (z ∈ cardsTo zss s i) = false := by simpa using hm
                  have hnd2 : Hid ((cardsTo zss s (i + 1)).Nodup) := by show List.Nodup _; rw [hsu.out]; exact nodup_snoc hnd.out hm
                  rw [hd] at hsc
                  rw [← hsu.out] at hsp
                  clear hm hrc hseen
                  go_wp2
                  go_roundw
                  case rel => exact ⟨i + 1, by omega, by go_num, hnd2, hsp, hbp, hcp⟩
                  case measure => simp [intOf]; omega
              · obtain rfl : i = row.length := by omega
                rw [HN.out] at hnd hseen
                go_wp2
                go_roundw
                case rel => exact ⟨s + 1, by omega, by go_num, hr1, hnd, hseen, hbox, hch⟩
                case measure => simp [intOf]; omega
          · have hf : Hid (dealB zss = false) := HF.out (fun x => hlen x.2)
            have hne : ((row.length : Int) == (n0 : Int)) = false := by simp; omega
            clear hh hlen
            go_wp2
            go_quiet ((go_at_call 163; first | exact quiet_add' (hIs _) | exact quiet_eq' (hIs _)))
            go_wp2
            go_ret
            exact ⟨ret_bool hf.out.symm, hch.trans (Chg.drewN _ _ _ _)⟩
      · obtain rfl : s = 4 := by omega
        rw [cardsTo_all hz] at hnd
        have hf := Lib.hid (deal_yes hz hrow.out hnd.out)
        go_wp2
        go_ret
        exact ⟨ret_bool hf.out.symm, hch⟩
  · rw [deal_len (by omega)]
    have hne : ((n : Int) == 4) = false := by simp; omega
    go_enter Try.func134, Try.ntmps134
    go_wp2
    go_ret
    exact ⟨rfl, Chg.of_alloc _ _ _ _⟩

/-- The box in which a function keeps its deal. -/
theorem box_at (w : World) (v : Value) (t : TypeId) : (w.alloc (.cells #[v] t)).cell? ⟨w.heap.size, 0, none⟩ = some v := by
  rw [cell_of_row _ _ _ _ _ _ (heap_alloc_new w _)]; rfl
theorem box_still {w w' : World} {a : Addr} {v : Value} (h : w.cell? a = some v) (c : Chg w w' 0 0) : w'.cell? a = some v := by
  rw [World.cell?_of_block (c.block _ (lt_of_cell h) (.inr (Nat.zero_le _)))]; exact h


/-- spec.IsDeal -/
theorem spec_IsDeal (A : Option Addr) (n c : Nat) (zss : List (List Int)) (lo hi : Nat) (w : World) (h : RdR w lo hi A n zss) (hl : ∀ j, j < n → (zss.getD j []).length ≤ 1048576) :
    Calls Try.prog 96 #[.agg #[.slice A n c]] w fun e w' => e = .returned (.bool (dealB zss)) ∧ Chg w w' 0 0 := by
  have hbx := box_at w (.slice A n c) 26
  have HA := Lib.hid (Chg.of_alloc w (.cells #[.slice A n c] 26) 0 0)
  go_enter Try.func96, Try.ntmps96
  go_wp2_with fail
  refine (l03Deal A n c zss lo hi _ (h.still HA.out) hl).mono ?_
  rintro e w1 ⟨rfl, c1⟩
  go_wp2_with fail
  go_ret
  exact ⟨rfl, HA.out.trans c1⟩




end Go.Proofs.Yteglffbeldlibaa.Lib1
