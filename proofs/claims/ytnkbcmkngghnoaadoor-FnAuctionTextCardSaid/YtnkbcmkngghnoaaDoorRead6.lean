/- Chapter 6: the calls by their texts (a map that the call makes), a call read from a text, and the laws FnExactReadCall and FnCallText. -/
import Derived.Test.YtnkbcmkngghnoaaDoorText6
import Derived.Test.YtnkbcmkngghnoaaDoorDraw6
import Derived.Maps.OwnSet
import Derived.StringKeys
namespace Go.Proofs.YtnkbcmkngghnoaaDoor.Lib1
open Go.RowKit Go.Maps Go.WideMaps
set_option maxRecDepth 100000

/-! ### The map -/
theorem strKeyed : Keyed Tryd.prog 9 := string_keyed Tryd.underlying9
theorem zeroI (w : World) : (zeroValue 2).run Tryd.prog w = .ok (.int .i64 0) w := by kernel_rfl
def keyT (t : ByteArray) : Lit := .string t.data.toList
theorem key_of {t : ByteArray} (h : t.size ≤ maxLen) : keyOf Tryd.prog 9 (.string t) = some (keyT t) := keyOf_string_mk Tryd.underlying9 h
theorem key_is (t : ByteArray) : WideAt.IsKeyLit (keyT t) := by unfold keyT; trivial
theorem key_inj {t u : ByteArray} (h : keyT t = keyT u) : t = u := by
  obtain ⟨⟨t⟩⟩ := t
  obtain ⟨⟨u⟩⟩ := u
  injection h with h
  have : t = u := h
  rw [this]
/-- The map behind the first k calls. -/
def mapC : Nat → DataW Unit
  | 0 => .map []
  | k + 1 => (mapC k).put (keyT (callT (k : Int))) (.lit (.int .i64 (k : Int)))
theorem mapC_map : ∀ k, IsMap (mapC k)
  | 0 => isMap_empty
  | k + 1 => (mapC_map k).put _ _
theorem mapC_miss {t : ByteArray} : ∀ k, (∀ j, j < k → callT ((j : Nat) : Int) ≠ t) → Maps.has (mapC k) (keyT t) = false ∧ ∀ z, (mapC k).atKey (keyT t) z = z
  | 0, _ => ⟨rfl, fun _ => rfl⟩
  | k + 1, h => by
    have ih := mapC_miss k (fun j hj => h j (by omega))
    have hne : keyT t ≠ keyT (callT (k : Int)) := fun e => h k (by omega) (key_inj e).symm
    exact ⟨(has_put_other hne _).trans ih.1, fun z => (atKey_put_other hne _ _).trans (ih.2 z)⟩
theorem mapC_hit {t : ByteArray} {i : Nat} (hi : callT (i : Int) = t) : ∀ k, k ≤ 38 → i < k → Maps.has (mapC k) (keyT t) = true ∧ ∀ z, (mapC k).atKey (keyT t) z = .lit (.int .i64 (i : Int))
  | 0, _, h => by omega
  | k + 1, hk, h => by
    by_cases e : i = k
    · subst e
      subst hi
      exact ⟨has_put_same (mapC_map i) (key_is _) _, fun z => atKey_put_same (mapC_map i) (key_is _) _ _⟩
    · have ih := mapC_hit hi k (by omega) (by omega)
      have hne : keyT t ≠ keyT (callT (k : Int)) := fun eq => e (callT_apart (by omega) (by omega) (hi.trans (key_inj eq)))
      exact ⟨(has_put_other hne _).trans ih.1, fun z => (atKey_put_other hne _ _).trans (ih.2 z)⟩
/-- What a look-up in the whole map gives. -/
theorem mapC_look (t : ByteArray) : Maps.has (mapC 38) (keyT t) = (rcV t).2 ∧ (mapC 38).atKey (keyT t) (.lit (.int .i64 0)) = .lit (.int .i64 (rcV t).1) := by
  by_cases h : ∃ i, i < 38 ∧ callT ((i : Nat) : Int) = t
  · obtain ⟨i, hi, ht⟩ := h
    have := mapC_hit ht 38 (Nat.le_refl _) hi
    rw [rcV_hit hi ht]
    exact ⟨this.1, this.2 _⟩
  · have hn : ∀ k, k < 38 → callT ((k : Nat) : Int) ≠ t := fun k hk e => h ⟨k, hk, e⟩
    have := mapC_miss 38 hn
    rw [rcV_none hn]
    exact ⟨this.1, this.2 _⟩

def CallMap (w : World) (g k : Nat) : Prop := w.ownsMap Tryd.prog 9 (plainElem (H := Unit) Tryd.prog 2) g k (mapC k)
theorem grown_of_chg {w w' : World} (c : Chg w w' 0 0) : w.grownBy w' none := ⟨c.os, c.tape, c.output, c.size, fun i hi _ => c.block i hi (.inr (Nat.zero_le _))⟩
theorem CallMap.still {w w' : World} {g k : Nat} (h : CallMap w g k) (c : Chg w w' 0 0) : CallMap w' g k := World.ownsMap.kept h (grown_of_chg c) (by simp)
theorem run_make38 (w : World) : (Instr.makeMap 61 (some (.int .i64 38))).run Tryd.prog w = .ok (.map (some w.heap.size)) (w.alloc (.map #[] 0)) := by kernel_rfl

set_option maxHeartbeats 1600000 in
theorem callsByText (w : World) : Calls Tryd.prog 31 #[] w fun e w' => e = .returned (.map (some w.heap.size)) ∧ CallMap w' w.heap.size 38 ∧ Below w.heap.size w w' := by
  have hmm := run_make38
  go_enter Tryd.func31, Tryd.ntmps31
  go_wp2
  go_loopw [4] (fun i wr => ∃ k : Nat, k ≤ 38 ∧ i = .int .i64 k ∧ Hid (CallMap wr w.heap.size k) ∧ Hid (Below w.heap.size w wr)) (fun i _ => 38 - (intOf i).toNat)
  case atStart => exact ⟨0, Nat.zero_le _, rfl, World.ownsMap_made _ _ _ _, (Below.refl _ _).alloc (Nat.le_refl _) _⟩
  case round =>
    obtain ⟨k, hk, rfl, hm, hb⟩ := hrel
    by_cases hlt : k < 38
    · have hkl : (k : Int) < 38 := by omega
      have hkey := Lib.hid (key_of (t := callT (k : Int)) (by have := callT_size (k : Int); unfold maxLen; omega))
      obtain ⟨T, hT⟩ : ∃ T, T = callT (k : Int) := ⟨_, rfl⟩
      have HT := Lib.hid hT
      rw [← hT] at hkey
      clear hT
      go_wp2_with fail
      refine (impl_CallText _ _).mono ?_
      rintro e w1 ⟨rfl, c1⟩
      rw [← HT.out]
      have hm1 := Lib.hid (hm.out.still c1)
      have hb1 := Lib.hid (Chg.above hb.out c1 hb.out.size (.inr rfl))
      clear c1
      go_wp2_with (first | (at_mapUpdate; refine wpList_mapUpdate_own _ rfl _ _ _ 61 rfl 9 2 strKeyed Tryd.underlying61 _ w.heap.size k _ rfl hm1.out (by unfold maxLen; omega) _ _ _ rfl rfl hkey.out _ [] (plainElem_int Tryd.underlying2 (WalkArith.wf_i64 (by omega))) ?_) | go_in)
      intro w2 hown2 hg2
      have hm2 : Hid (CallMap w2 w.heap.size (k + 1)) := by
        show World.ownsMap _ _ _ _ _ _ (mapC (k + 1))
        unfold mapC
        rw [← HT.out]
        exact hown2
      have hb2 : Hid (Below w.heap.size w w2) := hb1.out.grown hg2 hb1.out.size (fun j hj => by cases hj; exact Nat.le_refl _)
      clear hown2 hg2
      go_wp2
      go_roundw
      case rel => exact ⟨k + 1, by omega, by go_num, hm2, hb2⟩
      case measure => simp [intOf]; omega
    · obtain rfl : k = 38 := by omega
      go_wp2
      go_ret
      exact ⟨rfl, hm.out, hb.out⟩

theorem bytes_of_list {a b : ByteArray} (h : a.toList = b.toList) : a = b := by
  rw [ByteArray.toList_eq, ByteArray.toList_eq] at h
  obtain ⟨⟨a⟩⟩ := a
  obtain ⟨⟨b⟩⟩ := b
  have : a = b := h
  rw [this]
theorem ret_pair6 {v v' : Int} {b b' : Bool} (hv : v = v') (hb : b = b') : Ending.returned (.tuple #[.int .i64 v, .bool b]) = .returned (.tuple #[.int .i64 v', .bool b']) := by rw [hv, hb]

set_option maxHeartbeats 1600000 in
theorem spec_ReadCall (t : ByteArray) (w : World) : Calls Tryd.prog 48 #[.string t] w fun e w' => e = .returned (.tuple #[.int .i64 (rcV t).1, .bool (rcV t).2]) ∧ Chg w w' 0 0 := by
  go_enter Tryd.func48, Tryd.ntmps48
  go_wp2
  go_loopw [4] (fun i wr => ∃ k : Nat, k ≤ 38 ∧ i = .int .i64 k ∧ Hid (∀ j, j < k → callT ((j : Nat) : Int) ≠ t) ∧ Hid (Chg w wr 0 0)) (fun i _ => 38 - (intOf i).toNat)
  case atStart => exact ⟨0, Nat.zero_le _, rfl, fun j hj => by omega, Chg.refl _ _ _⟩
  case round =>
    obtain ⟨k, hk, rfl, hn, hc⟩ := hrel
    by_cases hlt : k < 38
    · have hkl : (k : Int) ≤ 37 := by omega
      by_cases he : callT (k : Int) = t
      · have hr := Lib.hid (rcV_hit hlt he)
        have hbe : ((callT (k : Int)).toList == t.toList) = true := by rw [he]; simp
        obtain ⟨T, hT⟩ : ∃ T, T = callT (k : Int) := ⟨_, rfl⟩
        have HT := Lib.hid hT
        rw [← hT] at hbe
        clear hT he
        go_wp2_with fail
        refine (spec_CallText _ _).mono ?_
        rintro e w1 ⟨rfl, c1⟩
        rw [← HT.out]
        have hc1 := Lib.hid (hc.out.trans c1)
        clear c1
        go_wp2
        go_ret2
        exact ⟨ret_pair6 (congrArg Prod.fst hr.out).symm (congrArg Prod.snd hr.out).symm, hc1.out⟩
      · have hn' : Hid (∀ j, j < k + 1 → callT ((j : Nat) : Int) ≠ t) := fun j hj => by
          by_cases e : j = k
          · subst e; exact he
          · exact hn.out j (by omega)
        have hbe : ((callT (k : Int)).toList == t.toList) = false := by
          cases hb : (callT (k : Int)).toList == t.toList
          · rfl
          · exact absurd (bytes_of_list (by simpa using hb)) he
        obtain ⟨T, hT⟩ : ∃ T, T = callT (k : Int) := ⟨_, rfl⟩
        have HT := Lib.hid hT
        rw [← hT] at hbe
        clear hT he
        go_wp2_with fail
        refine (spec_CallText _ _).mono ?_
        rintro e w1 ⟨rfl, c1⟩
        rw [← HT.out]
        have hc1 := Lib.hid (hc.out.trans c1)
        clear c1
        go_wp2
        go_roundw
        case rel => exact ⟨k + 1, by omega, by go_num, hn', hc1⟩
        case measure => simp [intOf]; omega
    · obtain rfl : k = 38 := by omega
      have hr : Hid (rcV t = (0, false)) := rcV_none hn.out
      go_wp2
      go_ret2
      exact ⟨ret_pair6 (congrArg Prod.fst hr.out).symm (congrArg Prod.snd hr.out).symm, hc.out⟩

/-! ### The laws -/


end Go.Proofs.YtnkbcmkngghnoaaDoor.Lib1
