/- A round of a range over a function, by the plain walk: what is shown of a region by the laws outside a round holds inside one, where no operation defers. No function of the program. The library's slices.Backward at []int64: what a range over it sees. The library's slices.Backward at []int64, once more: a round is told the index alone, what stands there is the slice's own. (For bodies that must know more of the element than that it is a number.) A range over a function whose rounds all go on, over an iterator that writes cells of its own between two rounds: a law of the walk. No function of the program. -/
import Derived.RangeFuncNested
import Derived.RangeFuncBound
import Derived.RangeFuncCalls
import Derived.RangeFuncLeaves
import Derived.Shelf.Abstract
import Derived.Shelf.RegionOpen
import Derived.WalkKit
import Derived.OwnWalkIn
import Derived.TacticsInMore
import Derived.LoopNIn
import Derived.LoopIn
import Derived.RangeFuncBox
import Derived.Deep.RegionHeld
import Derived.Maps.OwnIn
import Derived.Test.YteglffbeldlibaaRows
import Derived.Lib.Hide
namespace Go.Proofs.Yteglffbeldlibaa.Lib1

section
open Go.RowKit
set_option maxRecDepth 100000

def noDefer (ops : Array Oper) : Bool := ops.all fun o => match o.op with | .defer _ => false | _ => true
theorem noDefer_at {ops : Array Oper} (h : noDefer ops = true) {i : Nat} {o : Oper} (hi : ops[i]? = some o) : ∀ c, o.op ≠ .defer c := by
  intro c e
  have hm : o ∈ ops := Array.mem_of_getElem? hi
  have := (Array.all_eq_true_iff_forall_mem.1 h) o hm
  rw [e] at this
  cases this
theorem uponIn_of {l n : Nat} {P : Program} {o : Oper} {a : Act} {K K' : Act → World → Prop} {Q : Exit → Act → World → Prop} {r : Result Next} (hK : ∀ a w, K a w → K' a w) (h : o.upon P a K Q r) : o.uponIn (Fence.wide.inRound l) n P a K' Q r := by
  cases r with
  | ok nx w' =>
    cases nx with
    | value v => exact hK _ _ h
    | skip => exact hK _ _ h
    | defer d => exact hK _ _ h
    | enter f args =>
      refine ⟨(fun q => by cases q), CallsIn.inRound l (callsIn_wide.2 (Calls.mono h fun e w'' he => ?_))⟩
      cases e with
      | returned v => exact hK _ _ he
      | panicked chain => exact he
      | outgrown => exact he
    | row row args =>
      refine ⟨(fun q => by cases q), fun c cs _ => ?_⟩
      obtain ⟨v, w'', r, s⟩ := h c cs
      exact ⟨v, w'', hK _ _ r, stepsIn_wide.2 s⟩
    | round l f tmps assign body => exact h.elim
    | _ => exact h.elim
  | halt x w' =>
    cases x with
    | panic v => exact h
    | _ => exact h.elim

section
variable {l n : Nat} {P : Program} {ops : Array Oper} {Q : Exit → Act → World → Prop}
theorem wpOpIn_of {i : Nat} {K K' : Act → World → Prop} {a : Act} {w : World} (hd : noDefer ops = true) (hlo : ¬ LetsOut Q) (hK : ∀ a w, K a w → K' a w) (h : wpOp P ops Q i K a w) : wpOpIn (Fence.wide.inRound l) n P ops Q i K' a w := by
  unfold wpOp at h
  unfold wpOpIn
  cases hi : ops[i]? with
  | none => rw [hi] at h; exact hK _ _ h
  | some o =>
    rw [hi] at h
    simp only at h ⊢
    split
    · rename_i hw
      rw [if_pos hw] at h
      rcases h with h | ⟨_, h⟩
      · refine ⟨fun _ _ => trivial, ?_⟩
        rw [Oper.semAt_eq _ _ _ (noDefer_at hd hi)]
        exact uponIn_of hK h
      · exact absurd h hlo
    · rename_i hw
      rw [if_neg hw] at h
      exact ⟨fun _ _ => trivial, hK _ _ h⟩
theorem wpAnyIn_of {md : Region.Mode} (hd : noDefer ops = true) (hlo : ¬ LetsOut Q) : ∀ (fuel : Nat) (listed : Array Bool) (a : Act) (w : World), wpAny P md ops Q fuel listed a w → wpAnyIn (Fence.wide.inRound l) n P md ops Q fuel listed a w
  | 0, _, _, _, h => h
  | fuel + 1, _, _, _, h => ⟨h.1, fun i hi => wpOpIn_of hd hlo (fun a' w' h' => wpAnyIn_of hd hlo fuel _ a' w' h') (h.2 i hi)⟩
/-- A region that draws its order, in a round. -/
theorem round_region {id : Nat} {a : Act} {w : World} {S : World → Prop} (hm : P.follows .mixedOrders = true) (hd : noDefer ops = true) (hlo : ¬ LetsOut Q) (hS : S w.drew)
    (h : S w.drew → wpAnyH P .any ops Q S ops.size (Array.replicate ops.size false) a w.drew) : (Code.region id ops true).wpIn (Fence.wide.inRound l) n P Q a w :=
  wpIn_region_any hm (wpAnyIn_of hd hlo _ _ _ _ (wpAny_of_held _ _ _ _ (h hS)))
/-- Nothing but the region's end. -/
def AtEnd (Q : Exit → Act → World → Prop) (e : Exit) (a : Act) (w : World) : Prop := e = .normal ∧ Q e a w
theorem AtEnd.no (Q : Exit → Act → World → Prop) : ¬ LetsOut (AtEnd Q) := fun ⟨_, _, h⟩ => by cases h.1
theorem AtEnd.panic {Q : Exit → Act → World → Prop} {oi : Oper} {v : Value} : ∀ c a w, AtEnd Q (.panic c) (a.put oi.dst v) w → AtEnd Q (.panic c) a w := fun _ _ _ h => by cases h.1
theorem round_any {id : Nat} {a : Act} {w : World} (S : World → Prop) (hm : P.follows .mixedOrders = true) (hd : noDefer ops = true) (hS : S w.drew)
    (h : S w.drew → wpAnyH P .any ops (AtEnd Q) S ops.size (Array.replicate ops.size false) a w.drew) : (Code.region id ops true).wpIn (Fence.wide.inRound l) n P Q a w :=
  wpIn_mono (round_region hm hd (AtEnd.no Q) hS h) fun _ _ _ h => h.2
theorem wpOpsIn_of (hd : noDefer ops = true) (hlo : ¬ LetsOut Q) : ∀ (is : List Nat) (a : Act) (w : World), wpOps P ops Q is a w → wpOpsIn (Fence.wide.inRound l) n P ops Q is a w
  | [], _, _, h => h
  | i :: is, _, _, h => by
    rw [wpOps_cons] at h
    rw [wpOpsIn_cons]
    exact wpOpIn_of hd hlo (fun a' w' h' => wpOpsIn_of hd hlo is a' w' h') h
/-- A region in the text's order, in a round. -/
theorem round_list {id : Nat} {a : Act} {w : World} (hd : noDefer ops = true) (hlo : ¬ LetsOut Q) (h : wpOps P ops Q (List.range ops.size) a w) : (Code.region id ops false).wpIn (Fence.wide.inRound l) n P Q a w :=
  wpIn_region (wpOpsIn_of hd hlo _ _ _ h)
end
end

section
open Go.RowKit Go.Shelf
set_option maxRecDepth 100000
attribute [local go_sem] Oper.semAt_some

/-- What has come when k rounds are over: the last k elements with their indices, from the end. -/
def bwTo (zs : List Int) : (k : Nat) → k ≤ zs.length → List (Fin zs.length × Int)
  | 0, _ => []
  | k + 1, h => bwTo zs k (by omega) ++ [(⟨zs.length - 1 - k, by omega⟩, zs.getD (zs.length - 1 - k) 0)]
theorem bwTo_length (zs : List Int) : ∀ k h, (bwTo zs k h).length = k
  | 0, _ => rfl
  | k + 1, h => by rw [bwTo, List.length_append, bwTo_length zs k]; rfl
def bwE (zs : List Int) (x : Fin zs.length × Int) : Array Value := #[.int .i64 (x.1.val : Int), .int .i64 x.2]

theorem bwTo_step (zs : List Int) {k m : Nat} (h : k + 1 ≤ zs.length) (hm : zs.length - 1 - k = m) (hml : m < zs.length) : bwTo zs (k + 1) h = bwTo zs k (by omega) ++ [(⟨m, hml⟩, zs.getD m 0)] := by subst hm; rfl
/-- What a round must keep: the two blocks that the iterator reads. -/
def KpB (g b : Nat) (A B : World) : Prop := B.heap[g]? = A.heap[g]? ∧ B.heap[b]? = A.heap[b]?
theorem KpB.trans {g b : Nat} {A B C : World} (h : KpB g b A B) (k : KpB g b B C) : KpB g b A C := ⟨k.1.trans h.1, k.2.trans h.2⟩
theorem KpB.refl (g b : Nat) (A : World) : KpB g b A A := ⟨rfl, rfl⟩
theorem KpB.put {g b : Nat} {w : World} (hg : g < w.heap.size) (hb : b < w.heap.size) (W : World) (l : Nat) (o o' : Obj) (hl : w.heap.size ≤ l) (_ : W.heap[l]? = some o) (_ : o.isCells = false) (_ : o.isWalk = false) : KpB g b W (W.putObj l o') :=
  ⟨World.putObj_heap_other (by omega), World.putObj_heap_other (by omega)⟩
/-- How the iterator ends: all have come; or a part, a round having said no more. -/
def SeqEnd {α : Type} (S Sp : List α → Prop) (J Jx : List α → World → Prop) (e : Ending) (W' : World) : Prop := (∃ v, e = .returned v) ∧ ((∃ ys, S ys ∧ J ys W') ∨ (∃ pre, Sp pre ∧ Jx pre W'))




end

section
open Go.RowKit Go.Shelf
set_option maxRecDepth 100000
attribute [local go_sem] Oper.semAt_some

def bxTo (zs : List Int) : (k : Nat) → k ≤ zs.length → List (Fin zs.length)
  | 0, _ => []
  | k + 1, h => bxTo zs k (by omega) ++ [⟨zs.length - 1 - k, by omega⟩]
theorem bxTo_length (zs : List Int) : ∀ k h, (bxTo zs k h).length = k
  | 0, _ => rfl
  | k + 1, h => by rw [bxTo, List.length_append, bxTo_length zs k]; rfl
def bxE (zs : List Int) (x : Fin zs.length) : Array Value := #[.int .i64 (x.val : Int), .int .i64 (zs.getD x.val 0)]
theorem bxTo_step (zs : List Int) {k m : Nat} (h : k + 1 ≤ zs.length) (hm : zs.length - 1 - k = m) (hml : m < zs.length) : bxTo zs (k + 1) h = bxTo zs k (by omega) ++ [⟨m, hml⟩] := by subst hm; rfl



end

section
open Go.RowKit
set_option maxRecDepth 100000

/-- What an iterator does between two rounds: new blocks; of the blocks that lay it turns cells of the type T alone, at or beyond B. -/
structure Turns (T : TypeId) (B : Nat) (X Y : World) : Prop where
  os : Y.os = X.os
  tape : Y.tape = X.tape
  output : Y.output = X.output
  size : X.heap.size ≤ Y.heap.size
  same : ∀ (k : Nat) (o : Obj), X.heap[k]? = some o → (k < B ∨ ∀ cs fr, o ≠ .cells cs T fr) → Y.heap[k]? = some o
theorem Turns.alloc (T : TypeId) (B : Nat) (X : World) (o : Obj) : Turns T B X (X.alloc o) :=
  ⟨rfl, rfl, rfl, by simp, fun k o' hk _ => (Below.heap_alloc X o k (Array.getElem?_eq_some_iff.1 hk).1).trans hk⟩
theorem Turns.set {T : TypeId} {B : Nat} {X : World} {b i : Nat} {cs : Array Value} {fr : Nat × Nat} (hb : X.heap[b]? = some (.cells cs T fr)) (hB : B ≤ b) (v : Value) : Turns T B X (X.setCell ⟨b, i, none⟩ v) := by
  refine ⟨rfl, rfl, rfl, by simp [World.setCell], fun k o hk ho => ?_⟩
  have hne : k ≠ b := by
    rintro rfl
    rw [hb] at hk
    cases hk
    rcases ho with h | h
    · omega
    · exact h cs fr rfl
  exact (Below.heap_setCell X ⟨b, i, none⟩ v k hne).trans hk
theorem Turns.block {T : TypeId} {B : Nat} {X Y : World} (h : Turns T B X Y) {k : Nat} {o : Obj} (hk : X.heap[k]? = some o) (ho : ∀ cs fr, o ≠ .cells cs T fr) : Y.heap[k]? = some o := h.same k o hk (.inr ho)
theorem Turns.below {T : TypeId} {B : Nat} {X Y Z : World} (h : Below B Z X) (k : Turns T B X Y) (hB : B ≤ X.heap.size) : Below B Z Y :=
  ⟨k.os.trans h.os, k.tape.trans h.tape, k.output.trans h.output, Nat.le_trans h.size k.size, fun i hi => by
    have hx : i < X.heap.size := by omega
    rw [← h.block i hi, Array.getElem?_eq_getElem hx]
    exact k.same i _ (Array.getElem?_eq_getElem hx) (.inl hi)⟩

/-- What a round keeps for the iterator: its cells. -/
def KeepT (T : TypeId) (X Y : World) : Prop := X.heap.size ≤ Y.heap.size ∧ ∀ (k : Nat) (cs : Array Value) (fr : Nat × Nat), X.heap[k]? = some (.cells cs T fr) → Y.heap[k]? = some (.cells cs T fr)
theorem KeepT.refl (T : TypeId) (X : World) : KeepT T X X := ⟨Nat.le_refl _, fun _ _ _ h => h⟩
theorem KeepT.trans {T : TypeId} {X Y Z : World} (h : KeepT T X Y) (k : KeepT T Y Z) : KeepT T X Z := ⟨Nat.le_trans h.1 k.1, fun i cs fr hi => k.2 i cs fr (h.2 i cs fr hi)⟩
theorem KeepT.alloc (T : TypeId) (X : World) (o : Obj) : KeepT T X (X.alloc o) := ⟨by simp, fun k _ _ hk => (Below.heap_alloc X o k (Array.getElem?_eq_some_iff.1 hk).1).trans hk⟩
theorem KeepT.put {T : TypeId} {X : World} {l : Nat} {o : Obj} (o' : Obj) (hl : X.heap[l]? = some o) (ho : o.isCells = false) : KeepT T X (X.putObj l o') :=
  ⟨by simp, fun k cs fr hk => by
    refine (World.putObj_heap_other ?_).trans hk
    rintro rfl
    rw [hl] at hk
    cases hk
    cases ho⟩
theorem KeepT.below {T : TypeId} {X Y : World} (h : Below X.heap.size X Y) : KeepT T X Y := ⟨h.size, fun k _ _ hk => (h.block k (Array.getElem?_eq_some_iff.1 hk).1).trans hk⟩

theorem Turns.of_old {T : TypeId} {B : Nat} {X Y : World} (h : Below X.heap.size X Y) : Turns T B X Y := ⟨h.os, h.tape, h.output, h.size, fun k _ hk _ => (h.block k (Array.getElem?_eq_some_iff.1 hk).1).trans hk⟩
theorem KeepsFrom.of_old {B : Nat} {X Y : World} (h : Below X.heap.size X Y) : KeepsFrom B X Y := ⟨h.size, fun k _ _ hk _ => (h.block k (Array.getElem?_eq_some_iff.1 hk).1).trans hk⟩
/-- An operation in a round that is no defer, by its plain law. -/
theorem oper_round {l n : Nat} {P : Program} {o : Oper} {a : Act} {w : World} {K : Act → World → Prop} {Q : Exit → Act → World → Prop} (hd : ∀ c, o.op ≠ .defer c) (h : o.wp P a w K Q) : o.wpIn (Fence.wide.inRound l) n P a w K Q :=
  ⟨fun _ _ => trivial, by
    rw [Oper.semAt_eq _ _ _ hd]
    exact uponIn_of (fun _ _ q => q) h⟩
def Stays {β : Type} (T : TypeId) (B : Nat) (J : β → World → Prop) : Prop := ∀ s X Y, J s X → Turns T B X Y → J s Y

/-- An iterator that hands over just the list xs, if every round goes on. -/
def GivesAll {α : Type} (P : Program) (gf : Nat) (lb : Array Value) (encs : α → Array Value) (T : TypeId) (xs : List α) (w : World) : Prop :=
  ∀ (l : Nat) (J : List α → World → Prop) (W : World), Below w.heap.size w W → Stays T w.heap.size J →
    (∀ m pre x W1, (∃ r, xs = pre ++ x :: r) → J pre W1 → YieldAt Fence.wide m P l (encs x) W1 fun e W' => e = .returned (.bool true) ∧ J (pre ++ [x]) W' ∧ KeepT T W1 W') →
    J [] W → Calls P gf (#[.func (.yield l) #[] #[]] ++ lb) W fun e W' => (∃ v, e = .returned v) ∧ J xs W'

def roundEnds {α : Type} (B : Nat) (T : TypeId) (I : List α → World → Prop) (xs : List α) (W : World) : Exit → Act → World → Prop
  | .normal, _, W' => KeepsFrom B W W' ∧ KeepT T W W' ∧ I xs W'
  | _, _, _ => False

theorem wpIn_rangeAll {α : Type} {n : Nat} {P : Program} {g : Operand} {ps : Array Tmp} {assign body : Code} {Q : Exit → Act → World → Prop} {a : Act} {w : World}
    {gf : Nat} {lb : Array Value} (hg : a.eval g = .func (.func gf) #[] lb) (eg : ∀ args w, (callFunc gf args).run P w = .ok (.enter gf args) w)
    {encs : α → Array Value} (hps : ∀ x, (encs x).size = ps.size) {T : TypeId} {xs : List α} (hseq : GivesAll P gf lb encs T xs w)
    (I : List α → World → Prop) (hI : OwnFrom w.heap.size I) (hT : Stays T w.heap.size I) (h0 : I [] w) (Ax : α → Act → World → Prop) (hAx : ∀ x a', OwnFrom w.heap.size (fun (_ : Unit) W => Ax x a' W))
    (hassign : ∀ (m l : Nat) (pre : List α) (x : α) (W : World) (K : Act → World → Prop), (∃ r, xs = pre ++ x :: r) → I pre W → (∀ a' W', KeepsFrom w.heap.size W W' → KeepT T W W' → I pre W' → Ax x a' W' → K a' W') →
      assign.wpIn (Fence.wide.inRound l) m P (Exit.then K (fun _ _ _ => False)) { tmps := (ps.zip (encs x)).foldl (fun t (p, v) => t.setIfInBounds p v) a.tmps, defers := [] } W)
    (hbody : ∀ (m l : Nat) (pre : List α) (x : α) (a' : Act) (W : World), (∃ r, xs = pre ++ x :: r) → I pre W → Ax x a' W → body.wpIn (Fence.wide.inRound l) m P (roundEnds w.heap.size T I (pre ++ [x]) W) a' W)
    (hdone : ∀ (D : Nat) (W : World), w.heap.size ≤ D → I xs W → W.heap[D]? = some (.deferred (some [])) → Q .normal { a with defers := { target := .collected D, args := #[] } :: a.defers } W) :
    (Code.rangeFunc g ps assign body).wpIn Fence.wide n P Q a w := by
  refine wpIn_rangeFunc fun fn hfn => ?_
  obtain ⟨R, hR⟩ : ∃ R : LoopState → Option Code → Loop, ∀ s p, R s p = { state := s, pending := p, fn := fn, tmps := a.tmps, params := ps, assign := assign, body := body, defers := w.heap.size } := ⟨fun _ _ => _, fun _ _ => rfl⟩
  obtain ⟨V, hV⟩ : ∃ V, V = (w.alloc (.deferred (some []))).alloc (.loop (R .ready none)) := ⟨_, rfl⟩
  have zV : V.heap.size = w.heap.size + 2 := by rw [hV]; simp
  have lV : V.heap[w.heap.size + 1]? = some (.loop (R .ready none)) := by
    have := World.alloc_heap_new (w.alloc (.deferred (some []))) (.loop (R .ready none))
    rw [World.size_alloc] at this
    rw [hV]; exact this
  have dV : V.heap[w.heap.size]? = some (.deferred (some [])) := by
    rw [hV]
    exact (Below.heap_alloc _ _ _ (by simp)).trans (World.alloc_heap_new w _)
  have iV : I [] V := by rw [hV]; exact hI.alloc _ (hI.alloc _ h0)
  have bV : Below w.heap.size w V := by rw [hV]; exact ((Below.refl _ w).alloc (Nat.le_refl _) _).alloc (by simp) _
  refine ⟨w.heap.size + 1, [{ target := .collected w.heap.size, args := #[] }], V, { target := .fn (.func gf) lb, args := #[.func (.yield (w.heap.size + 1)) #[] #[]] }, V, gf, #[.func (.yield (w.heap.size + 1)) #[] #[]] ++ lb, V, ?enter, ?res, fun _ _ => trivial, ?inv, (fun h => by simp [Fence.wide] at h), ?call⟩
  case enter => rw [hV, hR]; exact run_enterLoop_outer _ _ _ _ _
  case res => simp only [resolve, hg]; simp [go_sem]
  case inv => simp [invoke, go_sem, eg]
  case call =>
    refine callsIn_wide.2 ?_
    refine (hseq (w.heap.size + 1) (fun pre W => I pre W ∧ W.heap[w.heap.size + 1]? = some (.loop (R .ready none)) ∧ W.heap[w.heap.size]? = some (.deferred (some []))) V bV
      (fun s X Y h k => ⟨hT s X Y h.1 k, k.block h.2.1 (fun _ _ e => by cases e), k.block h.2.2 (fun _ _ e => by cases e)⟩) ?round ⟨iV, lV, dV⟩).mono ?_
    case round =>
      rintro m pre x W hok ⟨hi, hl, hd⟩
      have hy := run_yield (P := P) (args := encs x) hl (by rw [hR]; exact hps x)
      rw [hR] at hy
      refine ⟨fn, _, assign, body, hy, roundIn_of_wpIn hfn (hassign m _ pre x W _ hok hi fun a' W1 kf kt hi1 hax => ?_)⟩
      have hl1 := kf.same _ _ (by omega) hl rfl
      have hd1 := kf.same _ _ (Nat.le_refl _) hd rfl
      refine ⟨_, run_beginRound hl1 (by rw [hR]), ?_⟩
      obtain ⟨W2, hW2⟩ : ∃ W2, W2 = W1.putObj (w.heap.size + 1) (.loop { R .ready none with state := .busy }) := ⟨_, rfl⟩
      have hl2 : W2.heap[w.heap.size + 1]? = some (.loop { R .ready none with state := .busy }) := by rw [hW2]; exact World.putObj_heap_same (Array.getElem?_eq_some_iff.1 hl1).1
      have hd2 : W2.heap[w.heap.size]? = some (.deferred (some [])) := by rw [hW2]; exact (World.putObj_heap_other (by omega)).trans hd1
      have hi2 : I pre W2 := by rw [hW2]; exact hI.putObj _ hi1 (by omega) hl1 rfl
      have hax2 : Ax x a' W2 := by rw [hW2]; exact (hAx x a').putObj (s := ()) _ hax (by omega) hl1 rfl
      have kt2 : KeepT T W W2 := by rw [hW2]; exact kt.trans (KeepT.put _ hl1 rfl)
      rw [← hW2]
      refine wpIn_mono (hbody m _ pre x a' W2 hok hi2 hax2) ?_
      intro e a3 W3 hp
      cases e with
      | normal =>
        obtain ⟨kf3, kt3, hi3⟩ := hp
        have hl3 := kf3.same _ _ (by omega) hl2 rfl
        have hd3 := kf3.same _ _ (Nat.le_refl _) hd2 rfl
        have hend := run_endRound (P := P) none hl3
        have er : { R .ready none with state := if (none : Option Code).isNone = true then LoopState.ready else LoopState.done, pending := none } = R .ready none := by simp only [hR]; rfl
        refine ⟨_, _, hend, rfl, ⟨hI.putObj _ hi3 (by omega) hl3 rfl, ?_, (World.putObj_heap_other (by omega)).trans hd3⟩, (kt2.trans kt3).trans (KeepT.put _ hl3 rfl)⟩
        rw [World.putObj_heap_same (Array.getElem?_eq_some_iff.1 hl3).1]
        exact congrArg some (congrArg Obj.loop er)
      | _ => exact hp.elim
    · rintro e W2 ⟨⟨v, rfl⟩, hi, hl, hd⟩
      have hend := run_endLoop (P := P) hl (by rw [hR]; simp)
      rw [hR] at hend
      exact ⟨none, _, hend, hdone _ _ (Nat.le_refl _) (hI.putObj _ hi (by omega) hl rfl) ((World.putObj_heap_other (by omega)).trans hd)⟩
end

end Go.Proofs.Yteglffbeldlibaa.Lib1
