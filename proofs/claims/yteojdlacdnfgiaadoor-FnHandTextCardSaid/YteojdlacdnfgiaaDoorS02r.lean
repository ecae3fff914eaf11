/- The contract of the model's ReadHand of chapter 2. -/
import Derived.Test.YteojdlacdnfgiaaDoorTwo
import Derived.Lib.Strings
namespace Go.Proofs.YteojdlacdnfgiaaDoor.Lib1
open Go.RowKit
set_option maxRecDepth 100000

/-- A slice in new memory and a bool are handed back. -/
def RetSB (w : World) (zs : List Int) (b : Bool) (e : Ending) (w' : World) : Prop :=
  ∃ A c, e = .returned (.tuple #[.slice A zs.length c, .bool b]) ∧ zs.length ≤ c ∧ Plain A c ∧ Own w' w.heap.size w'.heap.size A zs.length zs ∧ Chg w w' 0 0

theorem idx_range : ∀ (l : List UInt8) (c : UInt8), -1 ≤ Lib.indexByte l c ∧ Lib.indexByte l c < l.length
  | [], _ => by simp [Lib.indexByte]
  | b :: l, c => by
    have ih := idx_range l c
    unfold Lib.indexByte
    split
    · simp only [List.length_cons]; omega
    · split
      · simp only [List.length_cons]; omega
      · simp only [List.length_cons]; omega
/-- What has been read of the first k letters. -/
def readTo (l : List UInt8) (k : Nat) : List Int × Int := (l.take k).foldl stepR ([], 3)
theorem readTo_succ {l : List UInt8} {k : Nat} (h : k < l.length) : readTo l (k + 1) = stepR (readTo l k) (l.getD k 0) := by
  unfold readTo
  rw [List.take_succ_eq_append_getElem h, List.foldl_append]
  simp [List.getD, List.getElem?_eq_getElem h]
theorem readTo_range (l : List UInt8) : ∀ k, k ≤ l.length → (readTo l k).1.length ≤ k ∧ (readTo l k).2 ≤ 3 ∧ 3 - (k : Int) ≤ (readTo l k).2
  | 0, _ => by simp [readTo]
  | k + 1, h => by
    have ih := readTo_range l k (by omega)
    rw [readTo_succ (by omega)]
    unfold stepR
    split
    · simp only; omega
    · split
      · simp only [ins_length]; omega
      · omega
theorem step_dot' {st : List Int × Int} {b : UInt8} (h : b = 46) : stepR st b = (st.1, st.2 - 1) := by unfold stepR; rw [if_pos h]
theorem step_put {st : List Int × Int} {b : UInt8} {r : Int} (h : b ≠ 46) (hr : Lib.indexByte rankL b = r) (h0 : 0 ≤ r) (h1 : 0 ≤ st.2) (h2 : hasB st.1 (13 * st.2 + r) = false) : stepR st b = (ins (13 * st.2 + r) st.1, st.2) := by
  unfold stepR; rw [if_neg h, hr, if_pos ⟨h0, h1, by simpa [hasB] using h2⟩]
theorem step_not {st : List Int × Int} {b : UInt8} {r : Int} (h : b ≠ 46) (hr : Lib.indexByte rankL b = r) (h0 : r < 0 ∨ st.2 < 0 ∨ hasB st.1 (13 * st.2 + r) = true) : stepR st b = st := by
  unfold stepR
  rw [if_neg h, hr, if_neg]
  rintro ⟨q0, q1, q2⟩
  rcases h0 with h0 | h0 | h0
  · omega
  · omega
  · exact q2 (by simpa [hasB] using h0)

theorem ba_inj {a b : ByteArray} (h : a.toList = b.toList) : a = b := by
  rw [Lib.toList_data, Lib.toList_data] at h
  exact (bytes_ext h).trans (bytes_ext rfl).symm

set_option maxHeartbeats 3200000 in
/-- spec.ReadHand -/
theorem spec_ReadHand (s : ByteArray) (w : World) (hs : s.size ≤ 1048576) :
    Calls Tryd.prog 21 #[.string s] w (RetSB w (readV s.data.toList) (readB s.data.toList)) := by
  have hsl := size_list s
  have HSL := Lib.hid hsl
  clear hsl
  go_enter Tryd.func21, Tryd.ntmps21
  go_wp2
  go_loopw [4, 5, 6] (fun v t i wr => ∃ (k : Nat) (H : List Int) (st : Int), k ≤ s.size ∧ i = .int .i64 k ∧ t = .int .i64 st ∧ (k = 0 ∨ s.size ≤ 16) ∧ Hid ((H, st) = readTo s.data.toList k) ∧ OwnV wr w.heap.size v H ∧ Below w.heap.size w wr) (fun _ _ i _ => s.size - (intOf i).toNat)
  case atStart => exact ⟨0, [], 3, Nat.zero_le _, rfl, rfl, .inl rfl, rfl, OwnV.made w (Nat.le_refl _), (Below.refl _ _).alloc (Nat.le_refl _) _⟩
  case round =>
    obtain ⟨k, H, st, hk, rfl, rfl, hk16, hrd, ho, hb⟩ := hrel
    by_cases hgo : k < s.size ∧ s.size ≤ 16
    · obtain ⟨hlt, h16⟩ := hgo
      have hkl : (k : Int) < (s.size : Int) := by omega
      have h16I : (s.size : Int) ≤ 16 := by omega
      have hrg := readTo_range s.data.toList k (by rw [← HSL.out]; omega)
      rw [← hrd.out] at hrg
      obtain ⟨g1, g2, g3⟩ := hrg
      have hsu := Lib.hid (readTo_succ (l := s.data.toList) (k := k) (by rw [← HSL.out]; exact hlt))
      rw [byte_getD s k hlt, ← hrd.out] at hsu
      have hir := idx_range rankL s[k]
      have g1' : H.length ≤ 16 := by simp only at g1; omega
      have g2' : st ≤ 3 := g2
      have g3' : -16 ≤ st := by simp only at g3; omega
      clear g1 g2 g3
      obtain ⟨A', c', rfl, _, _, hown⟩ := ho.form_at rfl
      go_wp2
      go_quiet ((first | (go_at_call 50; first | exact quiet_eq (l01Ranks _) | exact quiet_add (l01Ranks _)) | (go_at_call 49; first | exact quiet_eq (l01Find _ _ _ (by decide)) | exact quiet_add (l01Find _ _ _ (by decide)))))
      generalize hr : Lib.indexByte (ByteArray.mk #[50, 51, 52, 53, 54, 55, 56, 57, 84, 74, 81, 75, 65]).data.toList s[k] = r
      have HR : Hid (Lib.indexByte rankL s[k] = r) := hr
      rw [HR.out] at hir
      have r0 : -1 ≤ r := hir.1
      have r1 : r ≤ 12 := by have := hir.2; simp [rankL] at this; omega
      clear hr hir
      have hoq := ho.still (Chg.drewN wr nq 0 0)
      have hbq := below_drewN hb nq
      have hrq := hown.rd.drewN nq
      clear ho hb hown
      generalize wr.drewN nq = wq at hoq hbq hrq
      by_cases h46 : s[k] = 46
      · have t46 : (((s[k].toNat : Nat) : Int) == 46) = true := by rw [h46]; rfl
        rw [step_dot' h46] at hsu
        clear h46
        go_wp2
        go_roundw
        case rel => exact ⟨k + 1, H, st - 1, by omega, by go_num, rfl, .inr h16, hsu.out.symm, hoq, hbq⟩
        case measure => simp [intOf]; omega
      · have t46 : (((s[k].toNat : Nat) : Int) == 46) = false := by
          rw [beq_eq_false_iff_ne]; intro e; apply h46; exact UInt8.toNat_inj.1 (by show s[k].toNat = 46; omega)
        by_cases hr0 : r < 0
        · rw [step_not h46 HR.out (.inl hr0)] at hsu
          have hr0' : ¬ 0 ≤ r := by omega
          clear h46
          go_wp2
          go_roundw
          case rel => exact ⟨k + 1, H, st, by omega, by go_num, rfl, .inr h16, hsu.out.symm, hoq, hbq⟩
          case measure => simp [intOf]; omega
        · have hr0' : 0 ≤ r := by omega
          by_cases hst : st < 0
          · rw [step_not h46 HR.out (.inr (.inl hst))] at hsu
            have hst' : ¬ 0 ≤ st := by omega
            clear h46
            go_wp2
            go_roundw
            case rel => exact ⟨k + 1, H, st, by omega, by go_num, rfl, .inr h16, hsu.out.symm, hoq, hbq⟩
            case measure => simp [intOf]; omega
          · have hst' : 0 ≤ st := by omega
            cases hhas : hasB H (13 * st + r) with
            | true =>
              rw [step_not h46 HR.out (.inr (.inr hhas))] at hsu
              have HH := Lib.hid hhas
              clear h46 hhas
              go_wp2_with fail
              refine (l01Has A' H.length c' (13 * st + r) H _ _ _ hrq (by omega)).mono ?_
              rintro e w' ⟨rfl, rfl⟩
              rw [HH.out]
              go_wp2_with fail
              go_roundw
              case rel => exact ⟨k + 1, H, st, by omega, by go_num, rfl, .inr h16, hsu.out.symm, hoq, hbq⟩
              case measure => simp [intOf]; omega
            | false =>
              rw [step_put h46 HR.out hr0' hst' hhas] at hsu
              have HH := Lib.hid hhas
              clear h46 hhas
              go_wp2_with fail
              refine (l01Has A' H.length c' (13 * st + r) H _ _ _ hrq (by omega)).mono ?_
              rintro e w' ⟨rfl, rfl⟩
              rw [HH.out]
              go_wp2_with fail
              refine (l01PutV A' H.length c' (13 * st + r) H _ _ _ hrq (by omega)).mono ?_
              rintro e w3 ⟨v3, rfl, o3, b3⟩
              have hb3 := hbq.trans (b3.mono hbq.size)
              have ho3 := o3.more hbq.size
              clear o3 b3 hrq hoq hbq
              go_wp2_with fail
              go_roundw
              case rel => exact ⟨k + 1, _, st, by omega, by go_num, rfl, .inr h16, hsu.out.symm, ho3, hb3⟩
              case measure => simp [intOf]; omega
    · have HF : Hid (H = readL s.data.toList) := by
        show _ = _
        unfold readL
        by_cases h16 : s.size ≤ 16
        · have hke : k = s.size := by omega
          have e : readTo s.data.toList k = parseR s.data.toList := by
            unfold readTo parseR; rw [List.take_of_length_le (by rw [← HSL.out]; omega)]
          rw [if_pos (by rw [← HSL.out]; exact h16), ← e, ← hrd.out]
        · have hk0 : k = 0 := by omega
          subst hk0
          rw [if_neg (by rw [← HSL.out]; exact h16)]
          have := congrArg Prod.fst hrd.out
          simpa [readTo] using this
      have hHl : H.length ≤ 16 := by
        rcases hk16 with h0 | h0
        · subst h0
          have := congrArg Prod.fst hrd.out
          have e : H = [] := by simpa [readTo] using this
          rw [e]; simp
        · have := (readTo_range s.data.toList k (by rw [← HSL.out]; omega)).1
          rw [← hrd.out] at this
          simp only at this; omega
      obtain ⟨A', c', rfl, hc', hp', hown⟩ := ho.form_at rfl
      by_cases hlt : k < s.size
      · have hkl : (k : Int) < (s.size : Int) := by omega
        have h16I : ¬ (s.size : Int) ≤ 16 := by omega
        clear hgo hk16 hrd
        go_wp2_with fail
        refine (spec_HandText A' H.length c' H _ _ _ hown.rd (by omega)).mono ?_
        rintro e w1 ⟨rfl, c1⟩
        cases hB : readB s.data.toList with
        | true =>
          have hx := text_read hB
          have HX : Hid ((⟨(handText H).toArray⟩ : ByteArray) = s) := by
            show _ = _
            have e := hx.1
            rw [hx.2, ← HF.out] at e
            rw [e]
          have HV : Hid (readV s.data.toList = H) := by show _ = _; rw [hx.2, ← HF.out]
          have HBB := Lib.hid hB
          rw [HX.out]
          clear hx hB
          go_wp2_with fail
          go_ret2
          rw [HV.out, HBB.out]
          exact ⟨A', c', rfl, hc', hp', (hown.still c1).more (Nat.le_refl _) c1.size, (Chg.of_below hb 0 0).trans c1⟩
        | false =>
          have HV := Lib.hid (read_no hB)
          have HX : Hid ((⟨(handText H).toArray⟩ : ByteArray) ≠ s) := by
            intro e
            have e2 : handText H = s.data.toList := by rw [← e]
            unfold readB at hB
            rw [← HF.out] at hB
            exact of_decide_eq_false hB e2
          have HBB := Lib.hid hB
          generalize (⟨(handText H).toArray⟩ : ByteArray) = T at HX
          have hne : (T.toList == s.toList) = false := by rw [beq_eq_false_iff_ne]; exact fun e => HX.out (ba_inj e)
          clear hB
          go_wp2_with fail
          go_ret2
          rw [HV.out, HBB.out]
          exact ⟨_, 0, rfl, Nat.le_refl _, Plain.at_ _ _ _, Own.none_, ((Chg.of_below hb 0 0).trans c1).trans (Chg.of_alloc _ _ _ _)⟩
      · have hkl : ¬ (k : Int) < (s.size : Int) := by omega
        clear hgo hk16 hrd
        go_wp2_with fail
        refine (spec_HandText A' H.length c' H _ _ _ hown.rd (by omega)).mono ?_
        rintro e w1 ⟨rfl, c1⟩
        cases hB : readB s.data.toList with
        | true =>
          have hx := text_read hB
          have HX : Hid ((⟨(handText H).toArray⟩ : ByteArray) = s) := by
            show _ = _
            have e := hx.1
            rw [hx.2, ← HF.out] at e
            rw [e]
          have HV : Hid (readV s.data.toList = H) := by show _ = _; rw [hx.2, ← HF.out]
          have HBB := Lib.hid hB
          rw [HX.out]
          clear hx hB
          go_wp2_with fail
          go_ret2
          rw [HV.out, HBB.out]
          exact ⟨A', c', rfl, hc', hp', (hown.still c1).more (Nat.le_refl _) c1.size, (Chg.of_below hb 0 0).trans c1⟩
        | false =>
          have HV := Lib.hid (read_no hB)
          have HX : Hid ((⟨(handText H).toArray⟩ : ByteArray) ≠ s) := by
            intro e
            have e2 : handText H = s.data.toList := by rw [← e]
            unfold readB at hB
            rw [← HF.out] at hB
            exact of_decide_eq_false hB e2
          have HBB := Lib.hid hB
          generalize (⟨(handText H).toArray⟩ : ByteArray) = T at HX
          have hne : (T.toList == s.toList) = false := by rw [beq_eq_false_iff_ne]; exact fun e => HX.out (ba_inj e)
          clear hB
          go_wp2_with fail
          go_ret2
          rw [HV.out, HBB.out]
          exact ⟨_, 0, rfl, Nat.le_refl _, Plain.at_ _ _ _, Own.none_, ((Chg.of_below hb 0 0).trans c1).trans (Chg.of_alloc _ _ _ _)⟩

end Go.Proofs.YteojdlacdnfgiaaDoor.Lib1
