/- Chapter 8, the program: the text of a play. (Written by wip/gen8r.py.) -/
import Derived.Test.YteglffbeldlibaaPv8
import Derived.Test.YteglffbeldlibaaBk8
import Derived.Test.YteglffbeldlibaaMt8
import Derived.Test.YteglffbeldlibaaCh8
namespace Go.Proofs.Yteglffbeldlibaa.Lib1
open Go.RowKit Go.Shelf
set_option maxRecDepth 100000
attribute [local go_sem] Oper.semAt_some

theorem cells_kept8 {W W' : World} {row : Option Nat} (hg : W.grownBy W' row) (hr : ∀ r, row = some r → ∃ o : Obj, W.heap[r]? = some o ∧ o.isCells = false) {k : Nat} {cs : Array Value} {t : TypeId} {fr : Nat × Nat} (h : W.heap[k]? = some (.cells cs t fr)) : W'.heap[k]? = some (.cells cs t fr) :=
  (hg.block k (lt_of_block h) (fun e => by
    obtain ⟨o, ho, hc⟩ := hr k e.symm
    rw [h] at ho
    cases ho
    cases hc)).trans h
theorem TBk.cells {w w' : World} {b : Nat} {t : ByteArray} (h : TBk w b t) (hk : ∀ (k : Nat) (cs : Array Value) (ty : TypeId) (fr : Nat × Nat), w.heap[k]? = some (.cells cs ty fr) → w'.heap[k]? = some (.cells cs ty fr)) : TBk w' b t := by
  have go : ∀ p, Go.Lib.BuilderAtF 97 5 b b p (Go.Lib.byteCells t.data.toList) w → Go.Lib.BuilderAtF 97 5 b b p (Go.Lib.byteCells t.data.toList) w' := fun p ⟨h1, v, h2, h3, h4⟩ => by
    refine ⟨h1, v, hk _ _ _ _ h2, ⟨h3.1, ?_⟩, h4⟩
    rcases h3.2 with h0 | ⟨g, cap, cur, fz, hv, hg, hh, r⟩
    · exact .inl h0
    · exact .inr ⟨g, cap, cur, fz, hv, hg, hk _ _ _ _ hh, r⟩
  rcases h with h | h
  · exact .inl (go _ h)
  · exact .inr (go _ h)
theorem TBk.still {w w' : World} {b : Nat} {t : ByteArray} (h : TBk w b t) (c : Chg w w' 0 0) : TBk w' b t := h.cells fun k _ _ _ hk => (c.block k (lt_of_block hk) (.inr (Nat.zero_le _))).trans hk
theorem TBk.lt {w : World} {b : Nat} {t : ByteArray} (h : TBk w b t) : b < w.heap.size := by
  rcases h with ⟨_, v, h2, _⟩ | ⟨_, v, h2, _⟩ <;> exact lt_of_block h2
theorem Oth.from {b : Nat} {w w' : World} (h : Oth b w w') (hz : w.heap.size ≤ w'.heap.size) {t : ByteArray} (hb : TBk w b t) (B : Nat) : KeepsFrom B w w' :=
  ⟨hz, fun k o _ hk ho => h k o hk (fun e => by
    injection e with e
    subst e
    rcases hb with ⟨_, v, h2, _⟩ | ⟨_, v, h2, _⟩ <;> (rw [h2] at hk; cases hk; cases ho)) (fun c fz e => by subst e; cases ho)⟩
theorem Oth.keep {b : Nat} {w w' : World} (h : Oth b w w') (hz : w.heap.size ≤ w'.heap.size) {t : ByteArray} (hb : TBk w b t) : KeepP chT w w' :=
  ⟨hz, fun k cs ty fr ht hk => h.cells hk (fun e => by
    subst e
    have : ty = 97 := by
      rcases hb with ⟨_, v, h2, _⟩ | ⟨_, v, h2, _⟩ <;> (rw [h2] at hk; cases hk; rfl)
    subst this
    rcases ht with e | e <;> exact absurd e (by decide)) (fun e => by subst e; rcases ht with e | e <;> exact absurd e (by decide))⟩
/-- Between two rounds: the text so far. -/
def TxI (w : World) (b : Nat) (st ld : Int) (cs : List Int) (n : Nat) (pre : List Nat) (W : World) : Prop := TBk W b (ptTo st ld cs (min (4 * pre.length) n)) ∧ Below w.heap.size w W
theorem TxI.own {w : World} {b n B : Nat} {st ld : Int} {cs : List Int} (hB : w.heap.size ≤ B) : OwnFrom B (TxI w b st ld cs n) := fun pre A C row h hg hr => by
  have hk := fun (k : Nat) (cs : Array Value) (t : TypeId) (fr : Nat × Nat) (q : A.heap[k]? = some (.cells cs t fr)) => cells_kept8 hg (fun r e => (hr r e).2) q
  exact ⟨h.1.cells hk, h.2.grown hg h.2.size (fun k e => Nat.le_trans hB (hr k e).1)⟩
theorem TxI.stays {w : World} {b n : Nat} {st ld : Int} {cs : List Int} : StaysB (TxI w b st ld cs n) := fun _ _ _ h k =>
  ⟨h.1.still (Chg.of_below k 0 0), h.2.trans (k.mono h.2.size)⟩
def TxAx (b0 off n b : Nat) (x : Nat) (a : Act) (_ : World) : Prop := ∃ x0 x1 x2 x5 x6 x7 x8 x9 x10 x11 x12 x13 x14 x15 x16 x17 x18 x19 : Value,
  a = { tmps := #[x0, x1, x2, .pointer (some ⟨b, 0, none⟩), chV b0 off n (4 * x), x5, x6, x7, x8, x9, x10, x11, x12, x13, x14, x15, x16, x17, x18, x19, chV b0 off n (4 * x), undef, undef, undef, undef, undef, undef], defers := [] }
theorem range_at {m x : Nat} {pre r : List Nat} (h : List.range m = pre ++ x :: r) : pre.length = x ∧ x < m := by
  have h1 : (List.range m)[pre.length]? = some x := by rw [h]; simp
  have hlt : pre.length < m := by
    have := congrArg List.length h
    simp at this
    omega
  rw [List.getElem?_eq_getElem (by simpa using hlt), List.getElem_range] at h1
  injection h1 with h1
  omega

set_option maxHeartbeats 8000000 in
theorem impl_PlayText (st ld : Int) (A : Option Addr) (n c : Nat) (cs : List Int) (w : World) (h : Rd w 0 w.heap.size A n cs) (hn : n ≤ 1048576) (hcap : n ≤ c) :
    Calls Try.prog 28 #[.agg #[.int .i64 st, .int .i64 ld, .slice A n c]] w fun e w' => e = .returned (.string (plyT st ld cs)) ∧ Chg w w' 0 0 := by
  have hl := Lib.hid h.1
  have HR := Lib.hid (show plyT st ld cs = if plainB st ld cs then ptTo st ld cs n else ⟨#[]⟩ by unfold plyT; rw [hl.out])
  obtain ⟨R, hR⟩ : ∃ R, R = plyT st ld cs := ⟨_, rfl⟩
  rw [← hR] at HR ⊢
  have ca := Chg.of_alloc w (.cells #[.int .i64 st, .int .i64 ld, .slice A n c] 29) 0 0
  have X := Lib.hid (SBox.new w 29 #[.int .i64 st, .int .i64 ld, .slice A n c])
  have H1 := Lib.hid (show Rd (w.alloc (.cells #[.int .i64 st, .int .i64 ld, .slice A n c] 29)) 0 _ A n cs from (h.still ca).all)
  have CA := Lib.hid ca
  have HW := Lib.hid h
  clear hR h ca
  refine callsIn_wide.1 (callsIn_of_wp_marks (n := 3) Try.func28 rfl trivial (wpIn_wide.2 ?_) rfl)
  simp only [Try.ntmps28, List.size_toArray, List.length_cons, List.length_nil, Nat.reduceAdd, Nat.reduceSub, Array.replicate_succ, Array.replicate_zero, List.push_toArray, List.append_toArray, List.nil_append, List.cons_append]
  go_wp2_with (refine wpList_load_row rfl 29 _ rfl w.heap.size rfl 29 #[.int .i64 st, .int .i64 ld, .slice A n c] (0, 0) _ X.out Try.underlying29 rfl (play_info _ _ _ _ _) ?_)
  generalize (w.alloc (.cells #[.int .i64 st, .int .i64 ld, .slice A n c] 29)) = W at X H1 CA ⊢
  refine (impl_IsPlainPlay st ld A n c cs W H1.out hn hcap).mono ?_
  rintro e w1 ⟨rfl, c1⟩
  have X1 := Lib.hid (X.out.still c1)
  have C1 := Lib.hid (CA.out.trans c1)
  clear X H1 CA c1
  cases hp : plainB st ld cs
  · have hr : Hid (R = ⟨#[]⟩) := by show R = _; rw [HR.out, hp]; rfl
    clear hp
    go_wp2_with fail
    exact ⟨_, results_tmp rfl _ _ _, by rw [hr.out]; rfl, C1.out⟩
  obtain ⟨hdf, hst, hld, hn52⟩ := plain_parts hp
  rw [hl.out] at hn52
  have hr := Lib.hid (show R = ptTo st ld cs n by rw [HR.out, hp]; rfl)
  have HZ := Lib.hid (fun j (hj : j < n) => diff_card hdf (show j < cs.length by rw [hl.out]; exact hj))
  have HST := Lib.hid hst
  have HLD := Lib.hid hld
  have p0 : (w1.alloc (.cells #[.pointer none, .slice none 0 0] 97)).cell? ⟨w.heap.size, 0, none⟩ = some (.int .i64 st) := (Chg.of_alloc w1 (.cells #[.pointer none, .slice none 0 0] 97) 0 0).cellS ((X1.out.cell 0).trans rfl)
  have HB1 : Hid (∀ h, (ByteArray.mk #[67, 68, 72, 83, 78])[st.toNat]'h = strB8 st) := by
    have hq : st = 0 ∨ st = 1 ∨ st = 2 ∨ st = 3 ∨ st = 4 := by omega
    rcases hq with rfl | rfl | rfl | rfl | rfl <;> exact fun _ => rfl
  have HB2 : Hid (∀ h, (ByteArray.mk #[78, 69, 83, 87])[ld.toNat]'h = seatB8 ld) := by
    have hq : ld = 0 ∨ ld = 1 ∨ ld = 2 ∨ ld = 3 := by omega
    rcases hq with rfl | rfl | rfl | rfl <;> exact fun _ => rfl
  have hs0 : 0 ≤ st := hst.1
  have hs5 : st < 5 := by omega
  have hl0 : 0 ≤ ld := hld.1
  have hl4 : ld < 4 := by omega
  have HT0 := Lib.hid (TBk.new w1)
  have hbl := Lib.hid (show Below w.heap.size w (w1.alloc (.cells #[.pointer none, .slice none 0 0] 97)) from C1.out.to_below.alloc C1.out.size _)
  have hbz := Lib.hid (show w1.heap.size < (w1.alloc (.cells #[.pointer none, .slice none 0 0] 97)).heap.size by simp)
  have p1 : (w1.alloc (.cells #[.pointer none, .slice none 0 0] 97)).cell? ⟨w.heap.size, 1, none⟩ = some (.int .i64 ld) := (Chg.of_alloc w1 (.cells #[.pointer none, .slice none 0 0] 97) 0 0).cellS ((X1.out.cell 1).trans rfl)
  have XB := Lib.hid (X1.out.still (Chg.of_alloc w1 (.cells #[.pointer none, .slice none 0 0] 97) 0 0))
  have hxw := Lib.hid (Nat.lt_of_lt_of_le X1.out.lt (Nat.le_refl w1.heap.size))
  obtain ⟨bb, hbb⟩ : ∃ bb, bb = w1.heap.size := ⟨_, rfl⟩
  have hwb : w.heap.size < bb := by have := hxw.out; omega
  have HBB := Lib.hid hbb
  rw [← hbb] at HT0 hbz
  clear hp hdf hst hld HR hbb hxw
  go_wp2_with fail
  rw [← HBB.out]
  generalize w1.alloc (.cells #[.pointer none, .slice none 0 0] 97) = V0 at p0 p1 HT0 hbl hbz XB ⊢
  rw [HB1.out]
  refine (HT0.out.writeB (strB8 st) (by show 0 + 1 ≤ _; omega) (by have := hbz.out; omega)).mono ?_
  rintro e V1 ⟨rfl, t1, b1, o1⟩
  have XB := Lib.hid (show SBox V1 29 w.heap.size #[.int .i64 st, .int .i64 ld, .slice A n c] from (b1.block _ hwb).trans XB.out)
  have hbl := Lib.hid (hbl.out.trans (b1.mono (Nat.le_of_lt hwb)))
  have T1 := Lib.hid t1
  have p1 : V1.cell? ⟨w.heap.size, 1, none⟩ = some (.int .i64 ld) := (XB.out.cell 1).trans rfl
  have hbz := Lib.hid t1.lt
  clear t1 b1 o1 p0 HT0 C1 X1 HBB
  go_wp2_with fail
  rw [HB2.out]
  refine (T1.out.writeB (seatB8 ld) (by rw [app_size8]; show 0 + 1 + 1 ≤ _; omega) (by have := hbz.out; omega)).mono ?_
  rintro e V2 ⟨rfl, t2, b2, o2⟩
  have XB := Lib.hid (show SBox V2 29 w.heap.size #[.int .i64 st, .int .i64 ld, .slice A n c] from (b2.block _ hwb).trans XB.out)
  have hbl := Lib.hid (hbl.out.trans (b2.mono (Nat.le_of_lt hwb)))
  have T2 := Lib.hid t2
  have hbz := Lib.hid t2.lt
  clear t2 b2 o2 p1 T1
  go_wp2_with fail
  refine (T2.out.write ⟨#[58]⟩ (by rw [app_size8, app_size8]; show 0 + 1 + 1 + 1 ≤ _; omega) (by have := hbz.out; omega)).mono ?_
  rintro e V3 ⟨rfl, t3, b3, o3⟩
  have XB := Lib.hid (show SBox V3 29 w.heap.size #[.int .i64 st, .int .i64 ld, .slice A n c] from (b3.block _ hwb).trans XB.out)
  have hbl := Lib.hid (hbl.out.trans (b3.mono (Nat.le_of_lt hwb)))
  have T3 := Lib.hid (show TBk V3 bb (ptTo st ld cs 0) by
    have e0 : ((ByteArray.mk #[] ++ ByteArray.mk #[strB8 st]) ++ ByteArray.mk #[seatB8 ld]) ++ ByteArray.mk #[58] = ptTo st ld cs 0 := by
      rw [ptTo, strT8_eq HST.out]
      rw [show ByteArray.mk #[] ++ ByteArray.mk #[strB8 st] = ByteArray.mk #[strB8 st] from rfl]
      rfl
    rw [← e0]; exact t3)
  have p2 : V3.cell? ⟨w.heap.size, 2, none⟩ = some (.slice A n c) := (XB.out.cell 2).trans rfl
  have hbz := Lib.hid t3.lt
  clear t3 b3 o3 T2 HB1 HB2 hs0 hs5 hl0 hl4
  go_wp2_with fail
  refine (chunk8 A n c V3).mono ?_
  rintro e V4 ⟨rfl, hV4⟩
  subst hV4
  have e3 : (V3.alloc (.cells #[.slice A n c] 27)).heap.size = V3.heap.size + 1 := by simp
  have k1 := Chg.of_alloc V3 (.cells #[.slice A n c] 27) 0 0
  have k2 := Chg.of_alloc (V3.alloc (.cells #[.slice A n c] 27)) (.cells #[.int .i64 4] 3) 0 0
  have s1 := (SBox.new V3 27 #[.slice A n c]).still k2
  have s2 := SBox.new (V3.alloc (.cells #[.slice A n c] 27)) 3 #[.int .i64 4]
  rw [e3] at s2
  have T4 := Lib.hid (T3.out.still (k1.trans k2))
  have hbl := Lib.hid (hbl.out.trans ((k1.trans k2).to_below.mono (hbl.out.size)))
  have hbz := Lib.hid (Nat.lt_of_lt_of_le hbz.out (k1.trans k2).size)
  obtain ⟨b, off, hA, hcs⟩ : ∃ b off, (0 < n → A = some ⟨b, off, none⟩) ∧ ∀ j, j < n → b < w.heap.size ∧ w.cell? ⟨b, off + j, none⟩ = some (.int .i64 (cs.getD j 0)) := by
    by_cases hn0 : 0 < n
    · obtain ⟨b, off, e, _, hb, hc⟩ := HW.out.2 hn0
      exact ⟨b, off, fun _ => e, fun j hj => ⟨hb, hc j hj⟩⟩
    · exact ⟨0, 0, fun h => absurd h hn0, fun j hj => absurd hj (by omega)⟩
  have hgi := Lib.hid (chunk_gives8 A n c b off hA hn hcap _ _ _ s1 s2)
  have HCS := Lib.hid hcs
  have h0 : TxI w bb st ld cs n [] ((V3.alloc (.cells #[.slice A n c] 27)).alloc (.cells #[.int .i64 4] 3)) := ⟨by
    rw [show min (4 * ([] : List Nat).length) n = 0 by simp]; exact T4.out, hbl.out⟩
  have hzw := Lib.hid hbl.out.size
  clear e3 k1 k2 s1 s2 p2 XB T3 T4 hA hcs
  generalize (V3.alloc (.cells #[.slice A n c] 27)).alloc (.cells #[.int .i64 4] 3) = V4 at hgi h0 hzw hbl hbz ⊢
  go_wp2_with fail
  refine (wpIn_wide (n := 3)).1 (wpIn_rangeP rfl (enters_of Try.func129 (by kernel_rfl) rfl) (fun _ => rfl) hgi.out (TxI w bb st ld cs n) (TxI.own hzw.out) TxI.stays h0 (TxAx b off n bb) ?ax ?assign ?body ?done)
  case ax =>
    intro x a' _ A0 C0 row h _ _
    exact h
  case assign =>
    rintro m l pre x W K _ hI hK
    dsimp only [chE]
    have HK := Lib.hid (fun a' h => hK a' W (KeepsFrom.refl _ _) (KeepP.refl _ _) hI h)
    clear hK
    gi_wp2
    exact HK.out _ ⟨_, _, _, _, _, _, _, _, _, _, _, _, _, _, _, _, _, _, rfl⟩
  case body =>
    rintro m l pre x a' W ⟨r, hr'⟩ ⟨hT, hB⟩ ⟨x0, x1, x2, x5, x6, x7, x8, x9, x10, x11, x12, x13, x14, x15, x16, x17, x18, x19, rfl⟩
    obtain ⟨hpl, hxm⟩ := range_at hr'
    have hk4 : 4 * x < n := by omega
    obtain ⟨e, he⟩ : ∃ e, e = min 4 (n - 4 * x) := ⟨_, rfl⟩
    have hmin : min (4 * pre.length) n = 4 * x := by omega
    have hmin2 : min (4 * (pre ++ [x]).length) n = 4 * x + e := by rw [List.length_append]; simp; omega
    rw [hmin] at hT
    have hchv : chV b off n (4 * x) = .slice (some ⟨b, off + 4 * x, none⟩) e e := by unfold chV; rw [← he]
    rw [hchv]
    have hrd : Hid (∀ V : World, Below w.heap.size w V → Rd V 0 V.heap.size (some ⟨b, off + 4 * x, none⟩) e ((cs.drop (4 * x)).take e)) := fun V bV => ⟨by rw [List.length_take, List.length_drop, hl.out]; omega, fun _ => ⟨b, off + 4 * x, rfl, Nat.zero_le _, Nat.lt_of_lt_of_le (HCS.out 0 (by omega)).1 bV.size, fun j hj => by
      have hq := HCS.out (4 * x + j) (by omega)
      rw [show ((cs.drop (4 * x)).take e).getD j 0 = cs.getD (4 * x + j) 0 by simp [List.getD, List.getElem?_drop, hj], show off + 4 * x + j = off + (4 * x + j) by omega, World.cell?_of_block (bV.block b hq.1)]
      exact hq.2⟩⟩
    have htx := Lib.hid (pt_trick (st := st) (ld := ld) (cs := cs) (k := 4 * x) (e := e) (by omega) (by omega) (by omega) (by rw [hl.out]; omega))
    have hsz : (ptTo st ld cs (4 * x)).size ≤ 200 := by have := ptTo_size (ld := ld) HST.out cs (4 * x); omega
    have hzl : ((cs.drop (4 * x)).take e).length = e := by rw [List.length_take, List.length_drop, hl.out]; omega
    have he1 : 0 < e := by omega
    have he4 : e ≤ 4 := by omega
    have HT := Lib.hid hT
    have HB := Lib.hid hB
    have HBZ := Lib.hid hT.lt
    obtain ⟨P, hP⟩ : ∃ P : World → Prop, Hid (∀ W', (KeepsFrom V4.heap.size W W' ∧ KeepP chT W W' ∧ TxI w bb st ld cs n (pre ++ [x]) W') → P W') ∧ Hid (∀ W', P W' → (KeepsFrom V4.heap.size W W' ∧ KeepP chT W W' ∧ TxI w bb st ld cs n (pre ++ [x]) W')) := ⟨_, fun _ h => h, fun _ h => h⟩
    refine wpIn_mono (Q := fun e _ W' => e = .normal ∧ P W') ?_ (fun e a' W' h => by obtain ⟨rfl, h⟩ := h; exact hP.2.out W' h)
    obtain ⟨hP, _⟩ := hP
    have HM2 := Lib.hid hmin2
    clear hr' hT hB hpl hxm hk4 he hmin hchv hmin2 hgi h0
    generalize (cs.drop (4 * x)).take e = zs at hrd htx hzl
    generalize 4 * x = j at hrd htx HT hsz HM2 ⊢
    gi_wp2_with fail
    refine ⟨trivial, (fun q => by cases q), CallsIn.inRound l (callsIn_wide.2 ((HT.out.write ⟨#[32]⟩ (by have : (ByteArray.mk #[32]).size = 1 := rfl; omega) (Nat.le_of_lt HBZ.out)).mono ?_))⟩
    rintro e1 W1 ⟨rfl, t1, b1, o1⟩
    have T1 := Lib.hid t1
    have B1 := Lib.hid (HB.out.trans (b1.mono (Nat.le_of_lt hwb)))
    have O1 := Lib.hid o1
    have Z1 := Lib.hid b1.size
    have hmc := Lib.hid (mapCT8 (some ⟨b, off + j, none⟩) e e zs W1 (hrd.out W1 B1.out) (by omega))
    clear t1 b1 o1
    gi_wp2_with fail
    refine ⟨trivial, (fun q => by cases q), CallsIn.inRound l (callsIn_wide.2 ((hmc.out).mono ?_))⟩
    rintro e2 W2 ⟨v2, rfl, o2, b2⟩
    have hj2 := Lib.hid (joinCT8 v2 zs W2 _ o2 (by omega) (by omega))
    have c2 := Chg.of_below b2 0 0
    have T2 := Lib.hid (T1.out.still c2)
    have B2 := Lib.hid (B1.out.trans (c2.to_below.mono B1.out.size))
    have O2 := Lib.hid (O1.out.trans (Oth.of_still c2))
    have Z2 := Lib.hid (Nat.le_trans Z1.out c2.size)
    clear o2 b2 c2 hmc T1 B1 O1 Z1
    gi_wp2_with fail
    refine ⟨trivial, (fun q => by cases q), CallsIn.inRound l (callsIn_wide.2 ((hj2.out).mono ?_))⟩
    rintro e3 W3 ⟨rfl, c3⟩
    have T3 := Lib.hid (T2.out.still c3)
    have B3 := Lib.hid (B2.out.trans (c3.to_below.mono B2.out.size))
    have O3 := Lib.hid (O2.out.trans (Oth.of_still c3))
    have Z3 := Lib.hid (Nat.le_trans Z2.out c3.size)
    have hjs := Lib.hid (joinCT_size8 zs (by omega))
    clear c3 hj2 T2 B2 O2 Z2
    gi_wp2_with fail
    refine ⟨trivial, (fun q => by cases q), CallsIn.inRound l (callsIn_wide.2 ((T3.out.write ⟨(Lib.join (zs.map ctL) [46]).toArray⟩ (by rw [app_size8]; have : (ByteArray.mk #[32]).size = 1 := rfl; have := hjs.out; omega) (Nat.le_of_lt T3.out.lt)).mono ?_))⟩
    rintro e4 W4 ⟨rfl, t4, b4, o4⟩
    rw [← htx.out] at t4
    have O4 := Lib.hid (O3.out.trans o4)
    have Z4 := Lib.hid (Nat.le_trans Z3.out b4.size)
    have HF := Lib.hid (hP.out W4 ⟨O4.out.from Z4.out HT.out _, O4.out.keep Z4.out HT.out, by unfold TxI; rw [HM2.out]; exact ⟨t4, B3.out.trans (b4.mono (Nat.le_of_lt hwb))⟩⟩)
    clear t4 b4 o4
    gi_wp2
    exact HF.out
  case done =>
    rintro D W hD ⟨hT, hB⟩ hK
    rw [show min (4 * (List.range ((n + 3) / 4)).length) n = n by rw [List.length_range]; omega] at hT
    have HT := Lib.hid hT
    have HB := Lib.hid hB
    have HK := Lib.hid hK
    have HBZ := Lib.hid hT.lt
    have HD := Lib.hid hD
    clear hT hB hK hgi h0 hD
    go_wp2_with fail
    refine (HT.out.text (Nat.le_of_lt HBZ.out)).mono ?_
    rintro e W2 ⟨rfl, b2, o2⟩
    have hK2 : W2.heap[D]? = some (.deferred (some [])) := o2 D _ HK.out (fun e => by
      injection e with e
      subst e
      rcases HT.out with ⟨_, v, h2, _⟩ | ⟨_, v, h2, _⟩ <;> (rw [h2] at HK; exact absurd HK.out (fun q => by cases q))) (fun _ _ e => by cases e)
    have HB2 := Lib.hid (HB.out.trans (b2.mono (Nat.le_of_lt hwb)))
    clear b2 o2
    go_wp2
    refine ⟨by simp, .inl ⟨_, _, rfl, run_takeDeferred hK2, ?_⟩⟩
    have hpo : Below W2.heap.size W2 W2 := Below.refl _ _
    refine ⟨_, results_tmp rfl _ _ _, by rw [hr.out]; first | done | rfl, ?_⟩
    have hs2 := HB2.out.size
    exact ⟨HB2.out.os, HB2.out.tape, HB2.out.output, by simpa [World.putObj] using hs2, fun k hk _ => (World.putObj_heap_other (by have := HD.out; have := hzw.out; omega)).trans (HB2.out.block k hk)⟩
end Go.Proofs.Yteglffbeldlibaa.Lib1
