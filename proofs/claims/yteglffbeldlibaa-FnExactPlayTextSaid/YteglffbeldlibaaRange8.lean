/- A range over a function whose iterator writes no memory: what a round keeps are the cells of some types (KeepP). As Range5's wpIn_rangeAll, over several types. (Written out of XRange5 by program.) -/
import Derived.Test.YteglffbeldlibaaRange5
namespace Go.Proofs.Yteglffbeldlibaa.Lib1

section
open Go.RowKit
set_option maxRecDepth 100000

/-- What a round keeps for the iterator: the cells of the types in T. -/
def KeepP (T : TypeId → Prop) (X Y : World) : Prop := X.heap.size ≤ Y.heap.size ∧ ∀ (k : Nat) (cs : Array Value) (t : TypeId) (fr : Nat × Nat), T t → X.heap[k]? = some (.cells cs t fr) → Y.heap[k]? = some (.cells cs t fr)
theorem KeepP.refl (T : TypeId → Prop) (X : World) : KeepP T X X := ⟨Nat.le_refl _, fun _ _ _ _ _ h => h⟩
theorem KeepP.trans {T : TypeId → Prop} {X Y Z : World} (h : KeepP T X Y) (k : KeepP T Y Z) : KeepP T X Z := ⟨Nat.le_trans h.1 k.1, fun i cs t fr ht hi => k.2 i cs t fr ht (h.2 i cs t fr ht hi)⟩
theorem KeepP.put {T : TypeId → Prop} {X : World} {l : Nat} {o : Obj} (o' : Obj) (hl : X.heap[l]? = some o) (ho : o.isCells = false) : KeepP T X (X.putObj l o') :=
  ⟨by simp, fun k cs t fr _ hk => by
    refine (World.putObj_heap_other ?_).trans hk
    rintro rfl
    rw [hl] at hk
    cases hk
    cases ho⟩
theorem KeepP.below {T : TypeId → Prop} {X Y : World} (h : Below X.heap.size X Y) : KeepP T X Y := ⟨h.size, fun k _ _ _ _ hk => (h.block k (Array.getElem?_eq_some_iff.1 hk).1).trans hk⟩
def StaysB {β : Type} (J : β → World → Prop) : Prop := ∀ s X Y, J s X → Below X.heap.size X Y → J s Y
/-- An iterator that writes nothing and hands over just the list xs, if every round goes on. -/
def GivesP {α : Type} (P : Program) (gf : Nat) (lb : Array Value) (encs : α → Array Value) (T : TypeId → Prop) (xs : List α) (w : World) : Prop :=
  ∀ (l : Nat) (J : List α → World → Prop) (W : World), Below w.heap.size w W → StaysB J →
    (∀ m pre x W1, (∃ r, xs = pre ++ x :: r) → J pre W1 → YieldAt Fence.wide m P l (encs x) W1 fun e W' => e = .returned (.bool true) ∧ J (pre ++ [x]) W' ∧ KeepP T W1 W') →
    J [] W → Calls P gf (#[.func (.yield l) #[] #[]] ++ lb) W fun e W' => (∃ v, e = .returned v) ∧ J xs W'

def roundEndsP {α : Type} (B : Nat) (T : TypeId → Prop) (I : List α → World → Prop) (xs : List α) (W : World) : Exit → Act → World → Prop
  | .normal, _, W' => KeepsFrom B W W' ∧ KeepP T W W' ∧ I xs W'
  | _, _, _ => False

theorem wpIn_rangeP {α : Type} {n : Nat} {P : Program} {g : Operand} {ps : Array Tmp} {assign body : Code} {Q : Exit → Act → World → Prop} {a : Act} {w : World}
    {gf : Nat} {lb : Array Value} (hg : a.eval g = .func (.func gf) #[] lb) (eg : ∀ args w, (callFunc gf args).run P w = .ok (.enter gf args) w)
    {encs : α → Array Value} (hps : ∀ x, (encs x).size = ps.size) {T : TypeId → Prop} {xs : List α} (hseq : GivesP P gf lb encs T xs w)
    (I : List α → World → Prop) (hI : OwnFrom w.heap.size I) (hT : StaysB I) (h0 : I [] w) (Ax : α → Act → World → Prop) (hAx : ∀ x a', OwnFrom w.heap.size (fun (_ : Unit) W => Ax x a' W))
    (hassign : ∀ (m l : Nat) (pre : List α) (x : α) (W : World) (K : Act → World → Prop), (∃ r, xs = pre ++ x :: r) → I pre W → (∀ a' W', KeepsFrom w.heap.size W W' → KeepP T W W' → I pre W' → Ax x a' W' → K a' W') →
      assign.wpIn (Fence.wide.inRound l) m P (Exit.then K (fun _ _ _ => False)) { tmps := (ps.zip (encs x)).foldl (fun t (p, v) => t.setIfInBounds p v) a.tmps, defers := [] } W)
    (hbody : ∀ (m l : Nat) (pre : List α) (x : α) (a' : Act) (W : World), (∃ r, xs = pre ++ x :: r) → I pre W → Ax x a' W → body.wpIn (Fence.wide.inRound l) m P (roundEndsP w.heap.size T I (pre ++ [x]) W) a' W)
    (hdone : ∀ (D : Nat) (W : World), w.heap.size ≤ D → I xs W → W.heap[D]? = some (.deferred (some [])) → Q .normal { a with defers := { target := .collected D, args := #[] } :: a.defers } W) :
    (Code.rangeFunc g ps assign body).wpIn Fence.wide n P Q a w := by
  refine wpIn_rangeFunc fun fn hfn => ?_
  obtain ⟨R, hR⟩ : ∃ R : LoopState → Option Code → Loop, ∀ s p, R s p = { state := s, pending := p, fn := fn, tmps := a.tmps, params := ps, assign := assign, body := body, defers := w.heap.size } := ⟨fun _ _ => _, fun _ _ => rfl⟩
  obtain ⟨V, hV⟩ : ∃ V, V = (w.alloc (.deferred (some []))).alloc (.loop (R .ready none)) := ⟨_, rfl⟩
  have zV : V.heap.size = w.heap.size + 2 := by rw [hV]; simp
  have lV : V.heap[w.heap.size + 1]? = some (.loop (R .ready none)) := by
    have := World.alloc_heap_new (w.alloc (.deferred (some []))) (.loop (R .ready none))
    rw [World.size_alloc] at this
    rw [hV]; exact this
  have dV : V.heap[w.heap.size]? = some (.deferred (some [])) := by
    rw [hV]
    exact (Below.heap_alloc _ _ _ (by simp)).trans (World.alloc_heap_new w _)
  have iV : I [] V := by rw [hV]; exact hI.alloc _ (hI.alloc _ h0)
  have bV : Below w.heap.size w V := by rw [hV]; exact ((Below.refl _ w).alloc (Nat.le_refl _) _).alloc (by simp) _
  refine ⟨w.heap.size + 1, [{ target := .collected w.heap.size, args := #[] }], V, { target := .fn (.func gf) lb, args := #[.func (.yield (w.heap.size + 1)) #[] #[]] }, V, gf, #[.func (.yield (w.heap.size + 1)) #[] #[]] ++ lb, V, ?enter, ?res, fun _ _ => trivial, ?inv, (fun h => by simp [Fence.wide] at h), ?call⟩
  case enter => rw [hV, hR]; exact run_enterLoop_outer _ _ _ _ _
  case res => simp only [resolve, hg]; simp [go_sem]
  case inv => simp [invoke, go_sem, eg]
  case call =>
    refine callsIn_wide.2 ?_
    refine (hseq (w.heap.size + 1) (fun pre W => I pre W ∧ W.heap[w.heap.size + 1]? = some (.loop (R .ready none)) ∧ W.heap[w.heap.size]? = some (.deferred (some []))) V bV
      (fun s X Y h k => ⟨hT s X Y h.1 k, (k.block _ (Array.getElem?_eq_some_iff.1 h.2.1).1).trans h.2.1, (k.block _ (Array.getElem?_eq_some_iff.1 h.2.2).1).trans h.2.2⟩) ?round ⟨iV, lV, dV⟩).mono ?_
    case round =>
      rintro m pre x W hok ⟨hi, hl, hd⟩
      have hy := run_yield (P := P) (args := encs x) hl (by rw [hR]; exact hps x)
      rw [hR] at hy
      refine ⟨fn, _, assign, body, hy, roundIn_of_wpIn hfn (hassign m _ pre x W _ hok hi fun a' W1 kf kt hi1 hax => ?_)⟩
      have hl1 := kf.same _ _ (by omega) hl rfl
      have hd1 := kf.same _ _ (Nat.le_refl _) hd rfl
      refine ⟨_, run_beginRound hl1 (by rw [hR]), ?_⟩
      obtain ⟨W2, hW2⟩ : ∃ W2, W2 = W1.putObj (w.heap.size + 1) (.loop { R .ready none with state := .busy }) := ⟨_, rfl⟩
      have hl2 : W2.heap[w.heap.size + 1]? = some (.loop { R .ready none with state := .busy }) := by rw [hW2]; exact World.putObj_heap_same (Array.getElem?_eq_some_iff.1 hl1).1
      have hd2 : W2.heap[w.heap.size]? = some (.deferred (some [])) := by rw [hW2]; exact (World.putObj_heap_other (by omega)).trans hd1
      have hi2 : I pre W2 := by rw [hW2]; exact hI.putObj _ hi1 (by omega) hl1 rfl
      have hax2 : Ax x a' W2 := by rw [hW2]; exact (hAx x a').putObj (s := ()) _ hax (by omega) hl1 rfl
      have kt2 : KeepP T W W2 := by rw [hW2]; exact kt.trans (KeepP.put _ hl1 rfl)
      rw [← hW2]
      refine wpIn_mono (hbody m _ pre x a' W2 hok hi2 hax2) ?_
      intro e a3 W3 hp
      cases e with
      | normal =>
        obtain ⟨kf3, kt3, hi3⟩ := hp
        have hl3 := kf3.same _ _ (by omega) hl2 rfl
        have hd3 := kf3.same _ _ (Nat.le_refl _) hd2 rfl
        have hend := run_endRound (P := P) none hl3
        have er : { R .ready none with state := if (none : Option Code).isNone = true then LoopState.ready else LoopState.done, pending := none } = R .ready none := by simp only [hR]; rfl
        refine ⟨_, _, hend, rfl, ⟨hI.putObj _ hi3 (by omega) hl3 rfl, ?_, (World.putObj_heap_other (by omega)).trans hd3⟩, (kt2.trans kt3).trans (KeepP.put _ hl3 rfl)⟩
        rw [World.putObj_heap_same (Array.getElem?_eq_some_iff.1 hl3).1]
        exact congrArg some (congrArg Obj.loop er)
      | _ => exact hp.elim
    · rintro e W2 ⟨⟨v, rfl⟩, hi, hl, hd⟩
      have hend := run_endLoop (P := P) hl (by rw [hR]; simp)
      rw [hR] at hend
      exact ⟨none, _, hend, hdone _ _ (Nat.le_refl _) (hI.putObj _ hi (by omega) hl rfl) ((World.putObj_heap_other (by omega)).trans hd)⟩
end

end Go.Proofs.Yteglffbeldlibaa.Lib1
