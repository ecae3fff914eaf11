/- The library's strings.Builder at this program's numbers, by the contracts that say what else is kept. (Written by wip/gen8q.py.) -/
import Derived.Shelf.Lay
import Derived.Shelf.LaySoft
import Derived.Shelf.Strings.BuilderK
import Derived.Test.YteglffbeldlibaaBase1
import Derived.Test.YteglffbeldlibaaPlayT8
namespace Go.Proofs
open Go.Shelf
set_option maxRecDepth 100000
def Yteglffbeldlibaa.ren166 : Go.Shelf.Ren := ⟨fun | 166 => 82 | 240 => 128 | 276 => 159 | n => n, fun | 0 => 0 | 3 => 3 | 4 => 4 | 5 => 5 | 9 => 9 | 20 => 20 | 37 => 22 | 70 => 95 | 72 => 97 | 75 => 99 | 80 => 109 | 164 => 165 | n => n, fun | n => n⟩
theorem Yteglffbeldlibaa.lays166 : Go.Proofs.Lays.n166 Try.prog Yteglffbeldlibaa.ren166 := {
  mixed := by kernel_rfl
  f166 := Try.func82.trans (congrArg some (by kernel_rfl))
  f240 := Try.func128.trans (congrArg some (by kernel_rfl))
  f276 := Try.func159.trans (congrArg some (by kernel_rfl))
  t0 := Try.underlying0
  a0 := Try.isAgg0
  z0 := Try.sizeOf0
  v0 := Try.zeroValue0
  t3 := Try.underlying3
  a3 := Try.isAgg3
  z3 := Try.sizeOf3
  v3 := Try.zeroValue3
  t4 := Try.underlying4
  a4 := Try.isAgg4
  z4 := Try.sizeOf4
  v4 := Try.zeroValue4
  t9 := Try.underlying9
  a9 := Try.isAgg9
  z9 := Try.sizeOf9
  v9 := Try.zeroValue9
  t20 := Try.underlying20
  a20 := Try.isAgg20
  z20 := Try.sizeOf20
  v20 := Try.zeroValue20
  t37 := Try.underlying22
  a37 := Try.isAgg22
  z37 := Try.sizeOf22
  v37 := Try.zeroValue22
  t70 := Try.underlying95
  a70 := Try.isAgg95
  z70 := Try.sizeOf95
  v70 := Try.zeroValue95
  t72 := Try.underlying97
  a72 := Try.isAgg97
  z72 := Try.sizeOf97
  v72 := Try.zeroValue97
  t75 := Try.underlying99
  a75 := Try.isAgg99
  z75 := Try.sizeOf99
  v75 := Try.zeroValue99
  t164 := Try.underlying165
  a164 := Try.isAgg165
  z164 := Try.sizeOf165
  v164 := Try.zeroValue165 }
theorem Yteglffbeldlibaa.extra166 : Builder.Extra Try.prog Yteglffbeldlibaa.ren166 := {
  sizeBuilder := by kernel_rfl
  liesBuilder := by kernel_rfl
  t5 := Try.underlying5
  a5 := Try.isAgg5
  z5 := Try.sizeOf5
  v5 := Try.zeroValue5
  infoByte := by kernel_rfl
  cellsByte := by kernel_rfl
  sizeByte := by kernel_rfl
  neB5 := by decide }
def Yteglffbeldlibaa.ren167 : Go.Shelf.Ren := ⟨fun | 167 => 81 | 240 => 128 | 276 => 159 | n => n, fun | 0 => 0 | 4 => 4 | 5 => 5 | 9 => 9 | 20 => 20 | 37 => 22 | 70 => 95 | 72 => 97 | 75 => 99 | 80 => 109 | 164 => 165 | n => n, fun | n => n⟩
theorem Yteglffbeldlibaa.lays167 : Go.Proofs.Lays.n167 Try.prog Yteglffbeldlibaa.ren167 := {
  mixed := by kernel_rfl
  f167 := Try.func81.trans (congrArg some (by kernel_rfl))
  f240 := Try.func128.trans (congrArg some (by kernel_rfl))
  f276 := Try.func159.trans (congrArg some (by kernel_rfl))
  t0 := Try.underlying0
  a0 := Try.isAgg0
  z0 := Try.sizeOf0
  v0 := Try.zeroValue0
  t4 := Try.underlying4
  a4 := Try.isAgg4
  z4 := Try.sizeOf4
  v4 := Try.zeroValue4
  t5 := Try.underlying5
  a5 := Try.isAgg5
  z5 := Try.sizeOf5
  v5 := Try.zeroValue5
  t9 := Try.underlying9
  a9 := Try.isAgg9
  z9 := Try.sizeOf9
  v9 := Try.zeroValue9
  t20 := Try.underlying20
  a20 := Try.isAgg20
  z20 := Try.sizeOf20
  v20 := Try.zeroValue20
  t37 := Try.underlying22
  a37 := Try.isAgg22
  z37 := Try.sizeOf22
  v37 := Try.zeroValue22
  t70 := Try.underlying95
  a70 := Try.isAgg95
  z70 := Try.sizeOf95
  v70 := Try.zeroValue95
  t72 := Try.underlying97
  a72 := Try.isAgg97
  z72 := Try.sizeOf97
  v72 := Try.zeroValue97
  t75 := Try.underlying99
  a75 := Try.isAgg99
  z75 := Try.sizeOf99
  v75 := Try.zeroValue99
  t164 := Try.underlying165
  a164 := Try.isAgg165
  z164 := Try.sizeOf165
  v164 := Try.zeroValue165 }
theorem Yteglffbeldlibaa.extra167 : Builder.Extra Try.prog Yteglffbeldlibaa.ren167 := {
  sizeBuilder := by kernel_rfl
  liesBuilder := by kernel_rfl
  t5 := Try.underlying5
  a5 := Try.isAgg5
  z5 := Try.sizeOf5
  v5 := Try.zeroValue5
  infoByte := by kernel_rfl
  cellsByte := by kernel_rfl
  sizeByte := by kernel_rfl
  neB5 := by decide }
def Yteglffbeldlibaa.ren169 : Go.Shelf.Ren := ⟨fun | 169 => 87 | n => n, fun | 0 => 0 | 3 => 3 | 5 => 5 | 9 => 9 | 37 => 22 | 70 => 95 | 72 => 97 | 127 => 149 | n => n, fun | n => n⟩
theorem Yteglffbeldlibaa.lays169 : Go.Proofs.Lays.n169 Try.prog Yteglffbeldlibaa.ren169 := {
  mixed := by kernel_rfl
  f169 := Try.func87.trans (congrArg some (by kernel_rfl))
  t0 := Try.underlying0
  a0 := Try.isAgg0
  z0 := Try.sizeOf0
  v0 := Try.zeroValue0
  t3 := Try.underlying3
  a3 := Try.isAgg3
  z3 := Try.sizeOf3
  v3 := Try.zeroValue3
  t9 := Try.underlying9
  a9 := Try.isAgg9
  z9 := Try.sizeOf9
  v9 := Try.zeroValue9
  t37 := Try.underlying22
  a37 := Try.isAgg22
  z37 := Try.sizeOf22
  v37 := Try.zeroValue22
  t70 := Try.underlying95
  a70 := Try.isAgg95
  z70 := Try.sizeOf95
  v70 := Try.zeroValue95
  t72 := Try.underlying97
  a72 := Try.isAgg97
  z72 := Try.sizeOf97
  v72 := Try.zeroValue97
  t127 := Try.underlying149
  a127 := Try.isAgg149
  z127 := Try.sizeOf149
  v127 := Try.zeroValue149 }
theorem Yteglffbeldlibaa.extra169 : Builder.Extra Try.prog Yteglffbeldlibaa.ren169 := {
  sizeBuilder := by kernel_rfl
  liesBuilder := by kernel_rfl
  t5 := Try.underlying5
  a5 := Try.isAgg5
  z5 := Try.sizeOf5
  v5 := Try.zeroValue5
  infoByte := by kernel_rfl
  cellsByte := by kernel_rfl
  sizeByte := by kernel_rfl
  neB5 := by decide }
end Go.Proofs
namespace Go.Proofs.Yteglffbeldlibaa.Lib1
open Go.RowKit
set_option maxRecDepth 100000
/-- Every block but the builder's own stands as it stood. -/
def Oth (b : Nat) (w w' : World) : Prop := Go.Lib.OthersKept 5 (some b) w w'
theorem Oth.refl (b : Nat) (w : World) : Oth b w w := Go.Lib.OthersKept.refl _ _ _
theorem Oth.trans {b : Nat} {u v w : World} (h : Oth b u v) (k : Oth b v w) : Oth b u w := Go.Lib.OthersKept.trans h k
theorem Oth.of_still {b : Nat} {w w' : World} (c : Chg w w' 0 0) : Oth b w w' := fun k _ hk _ _ => (c.block k (Array.getElem?_eq_some_iff.1 hk).1 (.inr (Nat.zero_le _))).trans hk
theorem Oth.cells {b : Nat} {w w' : World} (h : Oth b w w') {k : Nat} {cs : Array Value} {t : TypeId} {fr : Nat × Nat} (hk : w.heap[k]? = some (.cells cs t fr)) (hb : k ≠ b) (ht : t ≠ 5) : w'.heap[k]? = some (.cells cs t fr) :=
  h k _ hk (fun e => hb (by injection e)) (fun c fz e => ht (by injection e))
/-- A builder that holds a text. -/
def TBk (w : World) (b : Nat) (t : ByteArray) : Prop := Go.Lib.IsBuilderF 97 5 b b (Go.Lib.byteCells t.data.toList) w
theorem TBk.new (w : World) : TBk (w.alloc (.cells #[.pointer none, .slice none 0 0] 97)) w.heap.size ⟨#[]⟩ := Go.Lib.IsBuilderF.of (Go.Lib.fresh_isBuilder 97 5 w)
theorem TBk.write {w : World} {b : Nat} {t : ByteArray} (h : TBk w b t) (s : ByteArray) (hs : t.size + s.size ≤ 140737488355328) (hb : b ≤ w.heap.size) :
    Calls Try.prog 82 #[.pointer (some ⟨b, 0, none⟩), .string s] w fun e w' => e = .returned (.tuple #[.int .i64 s.size, .nilIface]) ∧ TBk w' b (t ++ s) ∧ Below b w w' ∧ Oth b w w' := by
  have hl : (Go.Lib.byteCells t.data.toList).length + s.size ≤ 140737488355328 := by
    rw [Go.Lib.byteCells_length, Array.length_toList]; exact hs
  refine (Any.Builder_WriteString_k Yteglffbeldlibaa.lays166 Yteglffbeldlibaa.extra166 b b _ s w h hl hb).mono fun e w' ⟨he, hw, hb', ho⟩ => ⟨he, .inr ?_, hb', ho⟩
  rw [app_data8, Go.Lib.byteCells_append, ← Go.Lib.strCells_eq]
  exact hw
theorem TBk.writeB {w : World} {b : Nat} {t : ByteArray} (h : TBk w b t) (c : UInt8) (hs : t.size + 1 ≤ 140737488355328) (hb : b ≤ w.heap.size) :
    Calls Try.prog 81 #[.pointer (some ⟨b, 0, none⟩), .int .u8 (c.toNat : Int)] w fun e w' => e = .returned .nilIface ∧ TBk w' b (t ++ ⟨#[c]⟩) ∧ Below b w w' ∧ Oth b w w' := by
  have hl : (Go.Lib.byteCells t.data.toList).length + 1 ≤ 140737488355328 := by
    rw [Go.Lib.byteCells_length, Array.length_toList]; exact hs
  refine (Any.Builder_WriteByte_k Yteglffbeldlibaa.lays167 Yteglffbeldlibaa.extra167 b b _ (c.toNat : Int) w h hl hb).mono fun e w' ⟨he, hw, hb', ho⟩ => ⟨he, .inr ?_, hb', ho⟩
  rw [app_data8, Go.Lib.byteCells_append]
  exact hw
theorem TBk.text {w : World} {b : Nat} {t : ByteArray} (h : TBk w b t) (hb : b ≤ w.heap.size) :
    Calls Try.prog 87 #[.pointer (some ⟨b, 0, none⟩)] w fun e w' => e = .returned (.string t) ∧ Below b w w' ∧ Oth b w w' := by
  refine (Any.Builder_String_any_k Yteglffbeldlibaa.lays169 Yteglffbeldlibaa.extra169 b b t.data.toList w h hb).mono fun e w' ⟨he, _, hb', ho⟩ => ⟨?_, hb', ho⟩
  rw [he]
end Go.Proofs.Yteglffbeldlibaa.Lib1
