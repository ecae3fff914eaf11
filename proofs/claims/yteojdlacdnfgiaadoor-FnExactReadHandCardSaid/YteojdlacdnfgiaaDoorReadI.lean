/- Chapter 2: the program's ReadHand, over the library's Split and Reverse taken by their contracts. -/
import Derived.Test.YteojdlacdnfgiaaDoorReadD
import Derived.Test.YteojdlacdnfgiaaDoorTextI
import Derived.Test.YteojdlacdnfgiaaDoorReadLaw2
import Derived.Sort.OwnSorted
namespace Go.Proofs.YteojdlacdnfgiaaDoor.Lib1
open Go.RowKit
set_option maxRecDepth 100000

theorem byte_at (a : ByteArray) (i : Nat) (h : i < a.size) : a[i]'h = a.data.toList.getD i 0 := by
  have h' : i < a.data.size := h
  rw [List.getD_eq_getElem?_getD, Array.getElem?_toList, Array.getElem?_eq_getElem h']
  rfl
/-- Four texts, by number. -/
def four (a b c d : ByteArray) : Nat → ByteArray
  | 0 => a
  | 1 => b
  | 2 => c
  | _ => d
/-- The cards of the first k texts. -/
def acc (pc : Nat → ByteArray) : Nat → List Int
  | 0 => []
  | k + 1 => acc pc k ++ cardsP (pc k).data.toList k
def accL (pc : Nat → ByteArray) : Nat → Nat
  | 0 => 0
  | k + 1 => accL pc k + (pc k).size
theorem list_size (a : ByteArray) : a.data.toList.length = a.size := (size_list a).symm
theorem acc_len (pc : Nat → ByteArray) : ∀ k, (acc pc k).length = accL pc k
  | 0 => rfl
  | k + 1 => by rw [acc, accL, List.length_append, acc_len pc k, cardsP, List.length_map, List.length_reverse, list_size]
theorem accL_mono (pc : Nat → ByteArray) : ∀ k j, k ≤ j → accL pc k ≤ accL pc j
  | k, 0, h => by have : k = 0 := by omega
                  subst this; exact Nat.le_refl _
  | k, j + 1, h => by
    by_cases e : k = j + 1
    · subst e; exact Nat.le_refl _
    · have := accL_mono pc k j (by omega); simp only [accL]; omega
theorem acc_four (a0 a1 a2 a3 : ByteArray) : acc (four a0 a1 a2 a3) 4 = cards4 a3.data.toList a2.data.toList a1.data.toList a0.data.toList := by
  simp [acc, four, cards4]
/-- The cards of the last j letters of a text. -/
def part (p : List UInt8) (s : Int) (j : Nat) : List Int := (p.reverse.take j).map (fun b => cardV s (Lib.indexByte rankL b))
theorem part_all (p : List UInt8) (s : Int) : part p s p.length = cardsP p s := by
  unfold part cardsP; rw [List.take_of_length_le (by simp)]
theorem part_succ (p : List UInt8) (s : Int) (j : Nat) (h : j < p.length) : part p s (j + 1) = part p s j ++ [cardV s (Lib.indexByte rankL (p.getD (p.length - 1 - j) 0))] := by
  unfold part
  rw [List.take_succ_eq_append_getElem (by simpa using h), List.map_append]
  simp [List.getElem_reverse, List.getD, List.getElem?_eq_getElem (show p.length - 1 - j < p.length by omega)]
theorem part_len (p : List UInt8) (s : Int) (j : Nat) : (part p s j).length ≤ p.length := by simp [part]; omega

/-- The pieces of a text with three dots. -/
theorem four_pieces {s : ByteArray} (h : Lib.countB s ⟨#[46]⟩ + 1 = 4) : ∃ a3 a2 a1 a0 : ByteArray, Lib.splitB ⟨#[46]⟩ 0 (Lib.countB s ⟨#[46]⟩) s = [a3, a2, a1, a0] ∧ splitD s.data.toList = [a3.data.toList, a2.data.toList, a1.data.toList, a0.data.toList] ∧ a3.size + a2.size + a1.size + a0.size ≤ s.size := by
  have hl := Lib.splitB_all ⟨#[46]⟩ (by decide) 0 _ s rfl
  have hp := split_pieces s
  rw [h] at hl
  match hs : Lib.splitB ⟨#[46]⟩ 0 (Lib.countB s ⟨#[46]⟩) s, hl with
  | [a3, a2, a1, a0], _ =>
    rw [hs] at hp
    simp only [List.map_cons, List.map_nil] at hp
    refine ⟨a3, a2, a1, a0, rfl, hp.symm, ?_⟩
    have hg := congrArg List.length (glue_splitD s.data.toList)
    rw [← hp] at hg
    simp only [glue, List.length_append, List.length_cons, list_size] at hg
    omega
theorem few_pieces {s : ByteArray} (h : Lib.countB s ⟨#[46]⟩ + 1 ≠ 4) : readB s.data.toList = false := by
  apply read_few
  rw [← split_pieces, List.length_map, Lib.splitB_all ⟨#[46]⟩ (by decide) 0 _ s rfl]
  exact h
theorem enc_str (a : ByteArray) : Value.string a = encStr a.data.toList := rfl
/-- The texts, behind their reversal. -/
theorem rev_texts (w : World) (a3 a2 a1 a0 : ByteArray) : Calls Tryd.prog 37 #[.slice (some ⟨w.heap.size, 0, none⟩) 4 4] (w.alloc (.cells #[.string a3, .string a2, .string a1, .string a0] 9)) fun e w' => e = .returned (.tuple #[]) ∧ w'.ownsRow w.heap.size 9 1 (.slice (some ⟨w.heap.size, 0, none⟩) 4 4) 4 [.string a0, .string a1, .string a2, .string a3] ∧ Below w.heap.size w w' := by
  have hh := heap_alloc_new w (.cells #[.string a3, .string a2, .string a1, .string a0] 9)
  have hH : Sort.Holds encStr (w.alloc (.cells #[.string a3, .string a2, .string a1, .string a0] 9)) w.heap.size 0 [a3.data.toList, a2.data.toList, a1.data.toList, a0.data.toList].toArray := holds_of_block hh rfl
  have c := Tryd.slices_Reverse_string w.heap.size 0 4 [a3.data.toList, a2.data.toList, a1.data.toList, a0.data.toList] _ hH (by simp)
  refine c.mono fun e w' ⟨he, n, hw⟩ => ⟨he, ?_, ?_⟩
  · rw [hw, ← Sort.grow_empty (Sort.putRow encStr _ _ _ _)]
    exact ownsRow_sorted (n := n) (os := #[]) (ss := [a3.data.toList, a2.data.toList, a1.data.toList, a0.data.toList]) (ts := [a0.data.toList, a1.data.toList, a2.data.toList, a3.data.toList]) rfl (Nat.le_refl _) hh (by simp) (by decide) rfl
  · rw [hw, ← Sort.grow_empty (Sort.putRow encStr _ _ _ _)]
    have b : Below w.heap.size w (w.alloc (.cells #[.string a3, .string a2, .string a1, .string a0] 9)) := (Below.refl _ _).alloc (Nat.le_refl _) _
    exact b.grown (grownBy_sorted _) (by simp) (by intro k hk; injection hk with hk; omega)

set_option maxHeartbeats 2000000 in
theorem impl_ReadHand : ImplRM 11 := by
  intro s w hn hk
  obtain ⟨mx, hmx⟩ := hk
  have HS := Lib.hid (Tryd.strings_Split s ⟨#[46]⟩ mx w (by omega) hmx (by decide))
  clear hmx
  by_cases h4 : Lib.countB s ⟨#[46]⟩ + 1 = 4
  · obtain ⟨a3, a2, a1, a0, hps, hsd, hsz⟩ := four_pieces h4
    have hf := read_four hsd
    rw [h4, hps] at HS
    have HF := Lib.hid hf
    have hac := Lib.hid (acc_four a0 a1 a2 a3)
    have hL : accL (four a0 a1 a2 a3) 4 ≤ s.size := by simp only [accL, four]; omega
    generalize hP : four a0 a1 a2 a3 = pc at hac hL
    have HP := Lib.hid hP
    clear hf hsd hps h4 hsz hP
    go_enter Tryd.func11, Tryd.ntmps11
    go_wp2_with fail
    refine HS.out.mono ?_
    rintro e w1 ⟨rfl, rfl⟩
    simp only [List.map_cons, List.map_nil]
    go_wp2_with fail
    refine (rev_texts w a3 a2 a1 a0).mono ?_
    rintro e w2 ⟨rfl, o2, b2⟩
    have hcs : ∀ k : Nat, k < 4 → w2.cell? ⟨w.heap.size, k, none⟩ = some (.string (pc k)) := by
      intro k hk
      rw [o2.cellAt k (by omega), ← HP.out]
      have hq : k = 0 ∨ k = 1 ∨ k = 2 ∨ k = 3 := by omega
      rcases hq with rfl | rfl | rfl | rfl <;> rfl
    have hz2 : w.heap.size + 1 ≤ w2.heap.size := by have := lt_of_cell (hcs 0 (by omega)); exact this
    have HC := Lib.hid hcs
    clear hcs o2
    go_wp2_with fail
    go_loopw [5, 19] (fun v i wr => ∃ k : Nat, k ≤ 4 ∧ i = .int .i64 k ∧ OwnV wr (w.heap.size + 1) v (acc pc k) ∧ Below (w.heap.size + 1) w2 wr) (fun _ i _ => 4 - (intOf i).toNat)
    case atStart => exact ⟨0, by omega, rfl, OwnV.nil_ _ _, Below.refl _ _⟩
    case round =>
      obtain ⟨k, hk, rfl, ho, hb⟩ := hrel
      by_cases hlt : k < 4
      · have hkl : (k : Int) < 4 := by omega
        have hcell : wr.cell? ⟨w.heap.size, k, none⟩ = some (.string (pc k)) := by
          rw [World.cell?_of_block (hb.block _ (by show w.heap.size < w.heap.size + 1; omega))]; exact HC.out k hlt
        have hm1 := accL_mono pc (k + 1) 4 (by omega)
        have hal := acc_len pc k
        have hs1 : accL pc (k + 1) = accL pc k + (pc k).size := rfl
        have HA := Lib.hid (show acc pc (k + 1) = acc pc k ++ cardsP (pc k).data.toList k from rfl)
        generalize acc pc k = H at ho hal HA
        generalize accL pc k = nH at hal hs1
        generalize accL pc (k + 1) = nH1 at hs1 hm1
        generalize pc k = a at hcell hs1 HA
        obtain ⟨wo, hwo⟩ : ∃ wo, wo = wr := ⟨wr, rfl⟩
        subst hwo
        go_wp2
        go_loopw [5, 8] (fun v i wr => ∃ j : Nat, j ≤ a.size ∧ i = .int .i64 ((a.size : Int) - 1 - (j : Int)) ∧ OwnV wr (w.heap.size + 1) v (H ++ part a.data.toList k j) ∧ Below (w.heap.size + 1) w2 wr) (fun _ i _ => (intOf i + 1).toNat)
        case atStart => exact ⟨0, Nat.zero_le _, by simp, by simpa [part] using ho, hb⟩
        case round =>
          obtain ⟨j, hj, rfl, ho, hb⟩ := hrel
          by_cases hjl : j < a.size
          · have q0 : 0 ≤ (a.size : Int) - 1 - (j : Int) := by omega
            have q1 : (a.size : Int) - 1 - (j : Int) < (a.size : Int) := by omega
            have qn : ((a.size : Int) - 1 - (j : Int)).toNat = a.size - 1 - j := by omega
            have hps := Lib.hid (part_succ a.data.toList k j (by rw [list_size]; exact hjl))
            have hpl := part_len a.data.toList k j
            rw [list_size] at hpl
            have hlen : (H ++ part a.data.toList k j).length ≤ 1048576 := by rw [List.length_append]; omega
            have hsz := Nat.le_trans hz2 hb.size
            have hbyte := Lib.hid (byte_at a (a.size - 1 - j) (by omega))
            go_wp2_with fail
            refine (IndexByte_at _ _ (Lib.indexByte rankL (a[a.size - 1 - j]'(by omega))) rfl _).mono ?_
            rintro e w' ⟨rfl, rfl⟩
            rw [hbyte.out]
            rw [list_size] at hps
            generalize Lib.indexByte rankL (a.data.toList.getD (a.size - 1 - j) 0) = r at hps
            obtain ⟨z, hz⟩ : ∃ z, cardV (k : Int) r = z := ⟨_, rfl⟩
            rw [hz] at hps
            have HZ := Lib.hid hz
            clear hz hbyte
            go_wp2_with (first | (go_at_call 39; refine (impl_CardOf_at _ _ z HZ.out _).mono ?_; rintro e w' ⟨rfl, rfl⟩) | (at_builtin; refine wpList_push rfl (.tmp 35) (.tmp 39) rfl (w.heap.size + 1) _ _ rfl ho z rfl hlen hsz ?_; intro v2 w3 o2 b3))
            go_roundw
            case rel => exact ⟨j + 1, by omega, by congr 1; omega, by rw [hps.out, ← List.append_assoc]; exact o2, hb.trans b3⟩
            case measure => simp [intOf]; omega
          · obtain rfl : j = a.size := by omega
            have q0 : ¬ 0 ≤ (a.size : Int) - 1 - (a.size : Int) := by omega
            have hpa := Lib.hid (part_all a.data.toList (k : Int))
            rw [list_size] at hpa
            rw [hpa.out, ← HA.out] at ho
            go_wp2
            go_roundw
            case rel => exact ⟨k + 1, by omega, by go_num, ho, hb⟩
            case measure => simp [intOf]; omega
      · obtain rfl : k = 4 := by omega
        rw [hac.out] at ho
        have hln := Lib.hid hac.out
        obtain ⟨A', c', rfl, hc', hp', hown⟩ := ho.form_at rfl
        have hbw := Lib.hid (b2.trans (hb.mono (Nat.le_succ _)))
        have hF1 := Lib.hid HF.out.1
        have hF2 := Lib.hid HF.out.2
        generalize cards4 a3.data.toList a2.data.toList a1.data.toList a0.data.toList = C at ho hc' hown hF1 hF2
        have hrd := hown.rd
        cases hh : handB C with
        | false =>
          have HH := Lib.hid hh
          rw [hh] at hF1 hF2
          clear hh
          go_wp2_with fail
          refine (impl_IsHand A' _ c' C _ _ _ hrd).mono ?_
          rintro e w' ⟨rfl, rfl⟩
          rw [HH.out]
          go_wp2_with fail
          go_ret2
          rw [hF1.out, hF2.out]
          exact ⟨none, 0, rfl, Nat.le_refl _, Plain.nil_, Own.none_, Chg.of_below hbw.out _ _⟩
        | true =>
          have HH := Lib.hid hh
          rw [hh] at hF1 hF2
          clear hh
          go_wp2_with fail
          refine (impl_IsHand A' _ c' C _ _ _ hrd).mono ?_
          rintro e w' ⟨rfl, rfl⟩
          rw [HH.out]
          go_wp2_with fail
          go_ret2
          rw [hF1.out, hF2.out]
          exact ⟨A', c', rfl, hc', hp', hown.more (by omega) (Nat.le_refl _), Chg.of_below hbw.out _ _⟩
  · have hb := Lib.hid (few_pieces h4)
    have hv := Lib.hid (read_no hb.out)
    have h4' : ((Lib.countB s ⟨#[46]⟩ : Int) + 1 == 4) = false := by simp; omega
    rw [hb.out, hv.out]
    go_enter Tryd.func11, Tryd.ntmps11
    go_wp2_with fail
    refine HS.out.mono ?_
    rintro e w1 ⟨rfl, rfl⟩
    go_wp2_with fail
    go_ret2
    exact ⟨none, 0, rfl, Nat.le_refl _, Plain.nil_, Own.none_, Chg.of_alloc _ _ _ _⟩

end Go.Proofs.YteojdlacdnfgiaaDoor.Lib1
