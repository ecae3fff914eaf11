/- Chapter 5: the program's areHolderLists. -/
import Derived.Test.YtdfmkikngifjmaaDohS5
import Derived.Test.YtdfmkikngifjmaaHold5g
namespace Go.Proofs.Ytdfmkikngifjmaa.Lib1
open Go.RowKit
set_option maxRecDepth 100000

theorem rowH_long {l : List Int} (h : ¬ l.length ≤ 13) : rowH l = false := by
  cases hh : rowH l with
  | false => rfl
  | true => exact absurd ((rowH_iff _).1 hh).1 h
theorem rowH_bad {l : List Int} {k : Nat} (hk : k < l.length) (h : inB (l.getD k 0) 0 3 = false) : rowH l = false := by
  cases hh : rowH l with
  | false => rfl
  | true =>
    have := ((rowH_iff _).1 hh).2 (l.getD k 0) (by rw [getD_at _ _ hk]; exact List.getElem_mem _)
    rw [inB_true this] at h; cases h
set_option maxHeartbeats 2000000 in
theorem areHolderLists (A : Option Addr) (n c : Nat) (L : List (List Int)) (lo hi : Nat) (w : World) (h : RdR w lo hi A n L) (hl : ∀ j, j < n → (L.getD j []).length ≤ 1048576) :
    Calls Try.prog 65 #[.slice A n c] w fun e w' => e = .returned (.bool (hlB L)) ∧ w = w' := by
  have hz := h.1
  by_cases h4 : n = 4
  · subst h4
    have HL4 := Lib.hid hz
    have HRW := Lib.hid (fun q hq h => hlB_row (L := L) (q := q) hq h)
    clear hz
    go_enter Try.func65, Try.ntmps65
    go_wp2
    go_loop [12] (fun i => ∃ q : Nat, q ≤ 4 ∧ i = .int .i64 q ∧ Hid (∀ j, j < q → rowH (L.getD j []) = true)) (fun i => 4 - (intOf i).toNat)
    case atStart => exact ⟨0, by omega, rfl, fun j hj => by omega⟩
    case round =>
      obtain ⟨q, hq, rfl, hok⟩ := hrel
      by_cases hlt : q < 4
      · have hql : (q : Int) < 4 := by omega
        obtain ⟨b, off, B, C, rfl, _, _, hcw, hrw, _, _⟩ := h.at_ hlt
        have hrl := hl q hlt
        have hB := Lib.hid (fun h' => HRW.out q hlt h')
        have hY : Hid (rowH (L.getD q []) = true → ∀ j, j < q + 1 → rowH (L.getD j []) = true) := fun g j hj => by
          by_cases e : j < q
          · exact hok.out j e
          · obtain rfl : j = q := by omega
            exact g
        generalize L.getD q [] = row at hcw hrw hrl hB hY
        by_cases h13 : row.length ≤ 13
        · have h13n : ¬ (13 : Int) < (row.length : Int) := by omega
          go_wp2
          go_loop [21] (fun i => ∃ k : Nat, k ≤ row.length ∧ i = .int .i64 k ∧ Hid (∀ j, j < k → inB (row.getD j 0) 0 3 = true)) (fun i => row.length - (intOf i).toNat)
          case atStart => exact ⟨0, Nat.zero_le _, rfl, fun j hj => by omega⟩
          case round =>
            obtain ⟨k, hk, rfl, hin⟩ := hrel
            by_cases hkl : k < row.length
            · have hkI : (k : Int) < (row.length : Int) := by omega
              obtain ⟨rb, ro, rfl, _, _, hrc⟩ := hrw.2 (by omega)
              have q2 := hrc k hkl
              cases hx : inB (row.getD k 0) 0 3 with
              | false =>
                have hf := Lib.hid (hB.out (rowH_bad hkl hx))
                have HX := Lib.hid hx
                clear hx hrc
                generalize row.getD k 0 = z at q2 HX
                go_wp2_with fail
                refine (isSeat z _).mono ?_
                rintro e w' ⟨rfl, rfl⟩
                rw [HX.out]
                go_wp2_with fail
                go_ret
                exact ⟨ret_bool hf.out.symm, rfl⟩
              | true =>
                have hin2 : Hid (∀ j, j < k + 1 → inB (row.getD j 0) 0 3 = true) := fun j hj => by
                  by_cases e : j < k
                  · exact hin.out j e
                  · obtain rfl : j = k := by omega
                    exact hx
                have HX := Lib.hid hx
                clear hx hrc
                generalize row.getD k 0 = z at q2 HX
                go_wp2_with fail
                refine (isSeat z _).mono ?_
                rintro e w' ⟨rfl, rfl⟩
                rw [HX.out]
                go_wp2_with fail
                go_round
                case rel => exact ⟨k + 1, by omega, by go_num, hin2⟩
                case measure => simp [intOf]; omega
            · obtain rfl : k = row.length := by omega
              have hok2 := Lib.hid (hY.out ((rowH_iff _).2 ⟨h13, fun x hx => by
                obtain ⟨i, hi, rfl⟩ := List.mem_iff_getElem.1 hx
                have := inB_range (hin.out i hi)
                rw [getD_at _ _ hi] at this
                exact this⟩))
              go_wp2
              go_round
              case rel => exact ⟨q + 1, by omega, by go_num, hok2⟩
              case measure => simp [intOf]; omega
        · have h13n : (13 : Int) < (row.length : Int) := by omega
          have hf := Lib.hid (hB.out (rowH_long h13))
          go_wp2
          go_ret
          exact ⟨ret_bool hf.out.symm, rfl⟩
      · obtain rfl : q = 4 := by omega
        have hf := Lib.hid (hlB_yes HL4.out hok.out)
        go_wp2
        go_ret
        exact ⟨ret_bool hf.out.symm, rfl⟩
  · have hne : ((n : Int) == 4) = false := by simp; omega
    have hne2 : ((n : Int) != 4) = true := by simp; omega
    have hf := Lib.hid (hlB_len (L := L) (by omega))
    clear hz
    go_enter Try.func65, Try.ntmps65
    go_wp2
    go_ret
    exact ⟨ret_bool hf.out.symm, rfl⟩

end Go.Proofs.Ytdfmkikngifjmaa.Lib1
