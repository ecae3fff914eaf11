/- Chapter 3: the model's DealText. -/
import Derived.Test.YteojdlacdnfgiaaDoorS03
import Derived.Test.YteojdlacdnfgiaaDoorTwo
namespace Go.Proofs.YteojdlacdnfgiaaDoor.Lib1
open Go.RowKit
set_option maxRecDepth 100000

/-- The text of the first k hands. -/
def dtTo (zss : List (List Int)) : Nat → List UInt8
  | 0 => [78, 58]
  | k + 1 => dtTo zss k ++ (if 0 < k then [32] else []) ++ textH (zss.getD k [])
def dealText (zss : List (List Int)) : List UInt8 := if dealB zss then dtTo zss 4 else []
theorem dtTo_len {zss : List (List Int)} (h : rowsTo zss 4) : ∀ k, k ≤ 4 → (dtTo zss k).length ≤ 2 + 17 * k
  | 0, _ => by simp [dtTo]
  | k + 1, hk => by
    have ih := dtTo_len h k (by omega)
    have ht := textH_length (h k (by omega)).1
    have h13 := hand_len (h k (by omega)).1
    simp only [dtTo, List.length_append]
    generalize (textH (zss.getD k [])).length = L at ht ⊢
    generalize (zss.getD k []).length = M at ht h13
    split <;> simp only [List.length_cons, List.length_nil] <;> omega
theorem str_cat (a b : List UInt8) : (⟨a.toArray⟩ : ByteArray) ++ ⟨b.toArray⟩ = ⟨(a ++ b).toArray⟩ := bytes_ext (by simp)
theorem str_size (a : List UInt8) : (⟨a.toArray⟩ : ByteArray).size = a.length := by simp [ByteArray.size]

set_option maxHeartbeats 2000000 in
/-- spec.DealText -/
theorem spec_DealText (A : Option Addr) (n c : Nat) (zss : List (List Int)) (lo hi : Nat) (w : World) (h : RdR w lo hi A n zss) (hl : ∀ j, j < n → (zss.getD j []).length ≤ 1048576) :
    Calls Tryd.prog 48 #[.agg #[.slice A n c]] w (RetT w (dealText zss)) := by
  have hbx := box_at w (.slice A n c) 35
  have HA := Lib.hid (Chg.of_alloc w (.cells #[.slice A n c] 35) 0 0)
  have HB := Lib.hid hbx
  cases hd : dealB zss with
  | false =>
    rw [show dealText zss = [] by simp [dealText, hd]]
    have HD := Lib.hid hd
    go_enter Tryd.func48, Tryd.ntmps48
    go_wp2_with fail
    refine (l03Deal A n c zss lo hi _ (h.still HA.out) hl).mono ?_
    rintro e w1 ⟨rfl, c1⟩
    rw [HD.out]
    have c01 := Lib.hid (HA.out.trans c1)
    clear c1
    go_wp2_with fail
    go_ret
    exact ⟨rfl, c01.out⟩
  | true =>
    rw [show dealText zss = dtTo zss 4 by simp [dealText, hd]]
    have hz4 : n = 4 := by rw [← h.1]; exact ((deal_iff zss).1 hd).1
    subst hz4
    have hrows := ((deal_iff zss).1 hd).2.1
    have HR := Lib.hid hrows
    have HD := Lib.hid hd
    clear hrows hd
    go_enter Tryd.func48, Tryd.ntmps48
    go_wp2_with fail
    refine (l03Deal A 4 c zss lo hi _ (h.still HA.out) hl).mono ?_
    rintro e w1 ⟨rfl, c1⟩
    rw [HD.out]
    have hb1 := Lib.hid (box_still HB.out c1)
    have c01 := Lib.hid (HA.out.trans c1)
    clear c1 hbx
    go_wp2_with fail
    go_loopw [3, 4] (fun t i wr => ∃ k : Nat, k ≤ 4 ∧ i = .int .i64 k ∧ t = .string ⟨(dtTo zss k).toArray⟩ ∧ Hid (Chg w1 wr 0 0)) (fun _ i _ => 4 - (intOf i).toNat)
    case atStart => exact ⟨0, by omega, rfl, rfl, Chg.refl _ _ _⟩
    case round =>
      obtain ⟨k, hk, rfl, rfl, hc⟩ := hrel
      by_cases hlt : k < 4
      · have hkl : (k : Int) < 4 := by omega
        have hcw := c01.out.trans hc.out
        have hbc := box_still hb1.out hc.out
        obtain ⟨b, off, B, C, rfl, _, _, hcell, hrd, _, _⟩ := (h.still hcw).at_ hlt
        have hrow := HR.out k hlt
        have hlen := dtTo_len HR.out k (by omega)
        have htl := textH_length hrow.1
        have h13 := hand_len hrow.1
        have HS : Hid (dtTo zss (k + 1) = dtTo zss k ++ (if 0 < k then [32] else []) ++ textH (zss.getD k [])) := rfl
        have HT := Lib.hid (l02Text B (zss.getD k []).length C (zss.getD k []) lo hi wr hrd hrow.1)
        generalize zss.getD k [] = row at hcell htl h13 HS HT
        clear hrd hrow
        generalize dtTo zss k = done at HS hlen
        generalize textH row = txt at HS HT htl
        clear hcw
        by_cases h0 : k = 0
        · have hp : ¬ (0 : Int) < (k : Int) := by omega
          have hp' : ¬ 0 < k := by omega
          rw [if_neg hp', List.append_nil] at HS
          have ka : ∀ W : World, (Op.stringOp .add ⟨done.toArray⟩ ⟨txt.toArray⟩).run Tryd.prog W = .ok (.string ⟨(done ++ txt).toArray⟩) W := fun W => by rw [run_string_add_sum W _ _ (by rw [str_size, str_size]; omega), str_cat]
          clear htl h13 hlen
          subst h0
          rw [Nat.add_zero] at hcell
          clear hp hp'
          go_wp2_with fail
          refine HT.out.mono ?_
          rintro e w2 ⟨rfl, c2⟩
          go_wp2_with fail
          go_roundw
          case rel => exact ⟨1, by omega, rfl, by rw [HS.out], hc.out.trans c2⟩
          case measure => simp [intOf]
        · have hp : (0 : Int) < (k : Int) := by omega
          have hp' : 0 < k := by omega
          rw [if_pos hp'] at HS
          have kb : ∀ W : World, (Op.stringOp .add ⟨done.toArray⟩ ⟨#[32]⟩).run Tryd.prog W = .ok (.string ⟨(done ++ [32]).toArray⟩) W := fun W => by rw [run_string_add_sum W _ _ (by rw [str_size]; show done.length + 1 ≤ _; omega)]; exact congrArg (fun q => Result.ok (Value.string q) W) (str_cat done [32])
          have ka : ∀ W : World, (Op.stringOp .add ⟨(done ++ [32]).toArray⟩ ⟨txt.toArray⟩).run Tryd.prog W = .ok (.string ⟨(done ++ [32] ++ txt).toArray⟩) W := fun W => by rw [run_string_add_sum W _ _ (by rw [str_size, str_size, List.length_append]; simp; omega), str_cat]
          generalize done ++ [32] = done2 at HS kb ka
          clear htl h13 hlen
          go_wp2_with fail
          refine HT.out.mono ?_
          rintro e w2 ⟨rfl, c2⟩
          go_wp2_with fail
          go_roundw
          case rel => exact ⟨k + 1, by omega, by go_num, by rw [HS.out], hc.out.trans c2⟩
          case measure => simp [intOf]; omega
      · obtain rfl : k = 4 := by omega
        go_wp2
        go_ret
        exact ⟨rfl, c01.out.trans hc.out⟩

end Go.Proofs.YteojdlacdnfgiaaDoor.Lib1
