/- The library's contract of (*strings.Builder).WriteString at this program's numbers (the kit's tool does not lay it where no body names the empty interface), and what a builder keeps. -/
import Derived.Test.YtnkbcmkngghnoaaDoorShelf
import Derived.Test.YtnkbcmkngghnoaaDoorAucT7
namespace Go.Proofs
open Go.Shelf
set_option maxRecDepth 100000
def YtnkbcmkngghnoaaDoor.ren166 : Go.Shelf.Ren := ⟨fun | 166 => 26 | 240 => 55 | 276 => 77 | n => n, fun | 0 => 0 | 3 => 3 | 4 => 4 | 5 => 5 | 9 => 9 | 20 => 20 | 37 => 22 | 70 => 49 | 72 => 51 | 75 => 53 | 80 => 57 | 164 => 108 | n => n, fun | n => n⟩
theorem YtnkbcmkngghnoaaDoor.lays166 : Go.Proofs.Lays.n166 Tryd.prog YtnkbcmkngghnoaaDoor.ren166 := {
  mixed := by kernel_rfl
  f166 := Tryd.func26.trans (congrArg some (by kernel_rfl))
  f240 := Tryd.func55.trans (congrArg some (by kernel_rfl))
  f276 := Tryd.func77.trans (congrArg some (by kernel_rfl))
  t0 := Tryd.underlying0
  a0 := Tryd.isAgg0
  z0 := Tryd.sizeOf0
  v0 := Tryd.zeroValue0
  t3 := Tryd.underlying3
  a3 := Tryd.isAgg3
  z3 := Tryd.sizeOf3
  v3 := Tryd.zeroValue3
  t4 := Tryd.underlying4
  a4 := Tryd.isAgg4
  z4 := Tryd.sizeOf4
  v4 := Tryd.zeroValue4
  t9 := Tryd.underlying9
  a9 := Tryd.isAgg9
  z9 := Tryd.sizeOf9
  v9 := Tryd.zeroValue9
  t20 := Tryd.underlying20
  a20 := Tryd.isAgg20
  z20 := Tryd.sizeOf20
  v20 := Tryd.zeroValue20
  t37 := Tryd.underlying22
  a37 := Tryd.isAgg22
  z37 := Tryd.sizeOf22
  v37 := Tryd.zeroValue22
  t70 := Tryd.underlying49
  a70 := Tryd.isAgg49
  z70 := Tryd.sizeOf49
  v70 := Tryd.zeroValue49
  t72 := Tryd.underlying51
  a72 := Tryd.isAgg51
  z72 := Tryd.sizeOf51
  v72 := Tryd.zeroValue51
  t75 := Tryd.underlying53
  a75 := Tryd.isAgg53
  z75 := Tryd.sizeOf53
  v75 := Tryd.zeroValue53
  t164 := Tryd.underlying108
  a164 := Tryd.isAgg108
  z164 := Tryd.sizeOf108
  v164 := Tryd.zeroValue108 }
theorem YtnkbcmkngghnoaaDoor.extra166 : Builder.Extra Tryd.prog YtnkbcmkngghnoaaDoor.ren166 := {
  sizeBuilder := by kernel_rfl
  liesBuilder := by kernel_rfl
  t5 := Tryd.underlying5
  a5 := Tryd.isAgg5
  z5 := Tryd.sizeOf5
  v5 := Tryd.zeroValue5
  infoByte := by kernel_rfl
  cellsByte := by kernel_rfl
  sizeByte := by kernel_rfl
  neB5 := by decide }
end Go.Proofs
namespace Go.Proofs.YtnkbcmkngghnoaaDoor.Lib1
open Go.RowKit
set_option maxRecDepth 100000
theorem writeString (B b : Nat) (bs : List Value) (s : ByteArray) (w : World) (h : Go.Lib.IsBuilder 51 5 B b bs w) (hlen : bs.length + s.size ≤ 140737488355328) (hBw : B ≤ w.heap.size) :
    Calls Tryd.prog 26 #[.pointer (some ⟨b, 0, none⟩), .string s] w fun e w' => e = .returned (.tuple #[.int .i64 s.size, .nilIface]) ∧ (Go.Lib.BuilderAt 51 5 B b (.pointer (some ⟨b, 0, none⟩)) (bs ++ Go.Lib.strCells s) w' ∧ Below B w w') :=
  Any.Builder_WriteString YtnkbcmkngghnoaaDoor.lays166 YtnkbcmkngghnoaaDoor.extra166 B b bs s w h hlen hBw
theorem isB_still {T e : TypeId} {B b : Nat} {bs : List Value} {w w' : World} (h : Go.Lib.IsBuilder T e B b bs w) (c : Chg w w' 0 0) : Go.Lib.IsBuilder T e B b bs w' := by
  have go : ∀ p, Go.Lib.BuilderAt T e B b p bs w → Go.Lib.BuilderAt T e B b p bs w' := fun p ⟨h1, v, h2, h3, h4⟩ => by
    refine ⟨h1, v, (c.block b (lt_of_block h2) (.inr (Nat.zero_le _))).trans h2, ⟨h3.1, ?_⟩, h4⟩
    rcases h3.2 with h0 | ⟨g, cap, cur, hv, hg, hh, r⟩
    · exact .inl h0
    · exact .inr ⟨g, cap, cur, hv, hg, (c.block g (lt_of_block hh) (.inr (Nat.zero_le _))).trans hh, r⟩
  rcases h with h | h
  · exact .inl (go _ h)
  · exact .inr (go _ h)
theorem text_back (t : ByteArray) : (⟨t.data.toList.toArray⟩ : ByteArray) = t := by
  obtain ⟨⟨l⟩⟩ := t
  rfl
/-- A builder that holds a text. -/
def TB (w : World) (b : Nat) (t : ByteArray) : Prop := Go.Lib.IsBuilder 51 5 b b (Go.Lib.byteCells t.data.toList) w
theorem TB.new (w : World) : TB (w.alloc (.cells #[.pointer none, .slice none 0 0] 51)) w.heap.size ⟨#[]⟩ := Go.Lib.fresh_isBuilder 51 5 w
theorem TB.still {w w' : World} {b : Nat} {t : ByteArray} (h : TB w b t) (c : Chg w w' 0 0) : TB w' b t := isB_still h c
theorem TB.write {w : World} {b : Nat} {t : ByteArray} (h : TB w b t) (s : ByteArray) (hs : t.size + s.size ≤ 140737488355328) (hb : b ≤ w.heap.size) :
    Calls Tryd.prog 26 #[.pointer (some ⟨b, 0, none⟩), .string s] w fun e w' => e = .returned (.tuple #[.int .i64 s.size, .nilIface]) ∧ TB w' b (t ++ s) ∧ Below b w w' := by
  have hl : (Go.Lib.byteCells t.data.toList).length + s.size ≤ 140737488355328 := by
    rw [Go.Lib.byteCells_length, Array.length_toList]; exact hs
  refine (writeString b b _ s w h hl hb).mono fun e w' ⟨he, hw, hb'⟩ => ⟨he, .inr ?_, hb'⟩
  rw [app_data, Go.Lib.byteCells_append, ← Go.Lib.strCells_eq]
  exact hw
theorem TB.text {w : World} {b : Nat} {t : ByteArray} (h : TB w b t) (hb : b ≤ w.heap.size) :
    Calls Tryd.prog 28 #[.pointer (some ⟨b, 0, none⟩)] w fun e w' => e = .returned (.string t) ∧ Below b w w' := by
  have c := Tryd.Builder_String_any b b t.data.toList w h hb
  rw [text_back] at c
  exact c
end Go.Proofs.YtnkbcmkngghnoaaDoor.Lib1
