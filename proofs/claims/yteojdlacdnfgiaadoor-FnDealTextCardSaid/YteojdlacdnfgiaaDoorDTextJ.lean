/- Chapter 3: the program's DealText. -/
import Derived.Test.YteojdlacdnfgiaaDoorDTextI
import Derived.Test.YteojdlacdnfgiaaDoorSetR5
namespace Go.Proofs.YteojdlacdnfgiaaDoor.Lib1
open Go.RowKit
set_option maxRecDepth 100000

theorem bytes_back (ts : List (List UInt8)) : (ts.map fun t => (⟨t.toArray⟩ : ByteArray)).map (·.data.toList) = ts := by
  rw [List.map_map]
  conv => rhs; rw [← List.map_id ts]
  rfl
set_option maxHeartbeats 1000000 in
theorem dealTextI (A : Option Addr) (n c : Nat) (zss : List (List Int)) (lo hi : Nat) (w : World) (h : RdR w lo hi A n zss) :
    Calls Tryd.prog 16 #[.agg #[.slice A n c]] w (RetT w (dealText zss)) := by
  have hz := h.1
  have hbx := box_at w (.slice A n c) 35
  have hca := Lib.hid (Chg.of_alloc w (.cells #[.slice A n c] 35) 0 0)
  cases hd : dealB zss with
  | false =>
    rw [show dealText zss = [] by simp [dealText, hd]]
    have HD := Lib.hid hd
    clear hd
    go_enter Tryd.func16, Tryd.ntmps16
    go_wp2_with fail
    refine (isDeal A n c zss lo hi _ (h.still hca.out)).mono ?_
    rintro e w1 ⟨rfl, c1⟩
    rw [HD.out]
    go_wp2_with fail
    go_ret
    exact ⟨rfl, hca.out.trans c1⟩
  | true =>
    rw [show dealText zss = dtTo zss 4 by simp [dealText, hd]]
    have HD := Lib.hid hd
    have hj := join_deal hd
    rw [List.map_id'] at hj
    have hlen := dtTo_len ((deal_iff zss).1 hd).2.1 4 (by omega)
    have h4 : n = 4 := by rw [← hz]; exact ((deal_iff zss).1 hd).1
    subst h4
    have e4 : (zss.map handText).length = 4 := by rw [List.length_map]; exact hz
    have hjl : (Lib.join (zss.map handText) [32]).length ≤ 100 := by have := congrArg List.length hj; rw [List.length_append] at this; omega
    have ka : Hid (∀ W : World, (Op.stringOp .add ⟨#[78, 58]⟩ ⟨(Lib.join (zss.map handText) [32]).toArray⟩).run Tryd.prog W = .ok (.string ⟨(dtTo zss 4).toArray⟩) W) := fun W => by
      rw [run_string_add_sum W _ _ (by have := str_size (Lib.join (zss.map handText) [32]); show 2 + _ ≤ _; omega), ← hj]; exact congrArg (fun q => Result.ok (Value.string q) W) (str_cat [78, 58] (Lib.join (zss.map handText) [32]))
    clear hj hlen hd
    go_enter Tryd.func16, Tryd.ntmps16
    go_wp2_with fail
    refine (isDeal A 4 c zss lo hi _ (h.still hca.out)).mono ?_
    rintro e w1 ⟨rfl, c1⟩
    rw [HD.out]
    have hb1 := box_still hbx c1
    have k1 := Lib.hid (hca.out.trans c1)
    clear c1 hbx
    go_wp2_with fail
    refine (mapRT A 4 c zss 0 w1.heap.size w1 (h.still k1.out).all (Nat.le_refl _) (by omega)).mono ?_
    rintro e w2 ⟨v, rfl, o2, b2⟩
    obtain ⟨g, cc, rfl, hg, hcc, hcells⟩ := o2.cells (by omega)
    have HJ := Tryd.strings_Join g 0 cc ((zss.map handText).map fun t => (⟨t.toArray⟩ : ByteArray)) ⟨#[32]⟩ w2 hcells hg (by rw [List.length_map]; omega) (by rw [List.length_map]; exact hcc) (by rw [bytes_back]; show (Lib.join _ [32]).length ≤ _; omega)
    rw [List.length_map, bytes_back, e4] at HJ
    have HJJ := Lib.hid HJ
    have k2 := Lib.hid (k1.out.trans (Chg.of_below b2 0 0))
    rw [e4]
    clear HJ o2 b2 hcells hb1 hcc
    go_wp2_with fail
    refine HJJ.out.mono ?_
    rintro e w3 ⟨rfl, b3⟩
    have ka' := ka.out
    have k3 := Lib.hid (k2.out.trans (Chg.of_below b3 0 0))
    clear b3 ka
    change ∀ W : World, (Op.stringOp .add ⟨#[78, 58]⟩ ⟨(Lib.join (zss.map handText) (⟨#[32]⟩ : ByteArray).data.toList).toArray⟩).run Tryd.prog W = _ at ka'
    go_wp2_with fail
    go_ret
    exact ⟨rfl, k3.out⟩

end Go.Proofs.YteojdlacdnfgiaaDoor.Lib1
