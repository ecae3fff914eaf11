/- Chapter 3: replaceCards and its two closures, over a replacement of cards taken by contract. -/
import Derived.Test.YtdfmkikngifjmaaSymA
import Derived.Test.YtdfmkikngifjmaaSortI
import Derived.Test.YtdfmkikngifjmaaL03x
namespace Go.Proofs.Ytdfmkikngifjmaa.Lib1
open Go.RowKit
set_option maxRecDepth 100000

/-- A replacement of cards, taken by contract, at every world that keeps the blocks of w. -/
def CardFn (f : Nat) (caps : Array Value) (g : Int → Int) (w : World) : Prop :=
  ∀ x : Int, 0 ≤ x → x ≤ 51 → ∀ W, Below w.heap.size w W → Calls Try.prog f (#[.int .i64 x] ++ caps) W fun e w' => e = .returned (.int .i64 (g x)) ∧ Below W.heap.size W w'
theorem CardFn.later {f : Nat} {caps : Array Value} {g : Int → Int} {w w1 : World} (h : CardFn f caps g w) (b : Below w.heap.size w w1) : CardFn f caps g w1 :=
  fun x h0 h1 W hb => h x h0 h1 W (b.trans (hb.mono b.size))

theorem replaceHand {f : Nat} {caps : Array Value} {g : Int → Int} (he : ∀ args w, (callFunc f args).run Try.prog w = .ok (.enter f args) w)
    (A : Option Addr) (n c : Nat) (row : List Int) (lo hi p : Nat) (w : World) (h : Rd w lo hi A n row) (hh : handB row = true) (hp : w.cell? ⟨p, 0, none⟩ = some (.func (.func f) #[] caps)) (hf : CardFn f caps g w) :
    Calls Try.prog 126 #[.slice A n c, .pointer (some ⟨p, 0, none⟩)] w (RetV w (mapH g row)) := by
  obtain ⟨h13, _, h51⟩ := (hand_iff row).1 hh
  have hn := h.1
  have hm : Hid ((row.map g).length ≤ 1048576) := by show _ ≤ _; simp; omega
  have hfx := Lib.hid (fun x (hx : x ∈ row) => hf x (h51 x hx).1 (h51 x hx).2)
  go_enter Try.func126, Try.ntmps126
  go_wp2_with fail
  refine (map64 (caps := caps) (g := g) he A n c row lo hi w h (by omega) hfx.out).mono ?_
  rintro e w1 ⟨v, rfl, o1, b1⟩
  go_wp2_with fail
  refine (sort64 o1 hm.out b1.size).mono ?_
  rintro e w2 ⟨rfl, o2, b2⟩
  go_wp2_with fail
  go_ret
  exact ⟨_, rfl, o2, b1.trans b2⟩

theorem replaceHands_sym {f : Nat} {caps : Array Value} {g : Int → Int} (he : ∀ args w, (callFunc f args).run Try.prog w = .ok (.enter f args) w) (p p2 : Nat) (w : World)
    (hp : w.cell? ⟨p, 0, none⟩ = some (.func (.func f) #[] caps)) (hp2 : w.cell? ⟨p2, 0, none⟩ = some (.func (.func 126) #[] #[.pointer (some ⟨p, 0, none⟩)])) (hf : CardFn f caps g w) :
    Sym 128 #[.pointer (some ⟨p2, 0, none⟩)] (mapD g) w := by
  intro b c zss base W hb hb1 hb2 hd ho hc hc2
  have hpW : W.cell? ⟨p, 0, none⟩ = some (.func (.func f) #[] caps) := cell_below hp hb (lt_of_cell hp)
  have hp2W : W.cell? ⟨p2, 0, none⟩ = some (.func (.func 126) #[] #[.pointer (some ⟨p, 0, none⟩)]) := cell_below hp2 hb (lt_of_cell hp2)
  have HP := Lib.hid hpW
  have hfW := hf.later hb
  have hhand := Lib.hid (fun j hj => ((((deal_iff zss).1 hd).2.1) j hj).1)
  have h4 := Lib.hid ((deal_iff zss).1 hd).1
  have he2 := enters_of Try.func126 (by kernel_rfl) rfl
  have hr := ho.rd
  clear hp hp2 hpW hf hd ho
  show Calls Try.prog _ #[.slice (some ⟨b, 0, none⟩) 4 c, .pointer (some ⟨p2, 0, none⟩)] W _
  go_enter Try.func128, Try.ntmps128
  go_wp2_with fail
  refine (mapRR (f := 126) (caps := #[.pointer (some ⟨p, 0, none⟩)]) (g := mapH g) he2 (some ⟨b, 0, none⟩) 4 c zss _ _ W hr (Nat.le_refl _) (by omega) (fun j hj B C W' hbw hrj _ _ => ?_)).mono ?_
  · exact (replaceHand he B _ C _ _ _ p W' hrj (hhand.out j hj) (cell_below HP.out hbw (lt_of_cell HP.out)) (hfW.later hbw)).mono fun _ _ q => RetS.of_V q
  rintro e w1 ⟨v, rfl, o1, b1⟩
  obtain ⟨b', c', rfl, hc1, hcm, o1⟩ := o1.own4 (by rw [List.length_map]; exact h4.out)
  have k1 := Lib.hid (Chg.of_below b1 0 0)
  have HO := Lib.hid (o1.more hb2 (Nat.le_refl _))
  clear o1 b1
  go_wp2_with fail
  go_ret
  exact ⟨_, _, rfl, hc1, hcm, HO.out, k1.out⟩

theorem func_store (W : World) (g : Nat) (f : Nat) (caps : Array Value) (m : Mode) : (store ⟨g, 0, none⟩ (.func (.func f) #[] caps) m).run Try.prog W = stored Try.prog W ⟨g, 0, none⟩ (.func (.func f) #[] caps) m := run_store Try.prog W _ _ m rfl
theorem replaceCards (f : Nat) (caps : Array Value) (w : World) : Calls Try.prog 98 #[.func (.func f) #[] caps] w fun e w' =>
    e = .returned (.func (.func 128) #[] #[.pointer (some ⟨w.heap.size + 1, 0, none⟩)]) ∧ w'.cell? ⟨w.heap.size, 0, none⟩ = some (.func (.func f) #[] caps) ∧
      w'.cell? ⟨w.heap.size + 1, 0, none⟩ = some (.func (.func 126) #[] #[.pointer (some ⟨w.heap.size, 0, none⟩)]) ∧ Chg w w' 0 0 := by
  have hs := func_store
  go_enter Try.func98, Try.ntmps98
  go_wp2
  have h1 := box_at w (.func (.func f) #[] caps) 55
  have c1 := Chg.of_alloc w (.cells #[.func (.func f) #[] caps] 55) 0 0
  have c2 := Chg.of_alloc (w.alloc (.cells #[.func (.func f) #[] caps] 55)) (.cells #[.func (.func 126) #[] #[.pointer (some ⟨w.heap.size, 0, none⟩)]] 41) 0 0
  have h2 := box_at (w.alloc (.cells #[.func (.func f) #[] caps] 55)) (.func (.func 126) #[] #[.pointer (some ⟨w.heap.size, 0, none⟩)]) 41
  rw [World.size_alloc] at h2
  go_ret
  exact ⟨rfl, box_still h1 c2, h2, c1.trans c2⟩

/-- What replaceCards handed back, applied. -/
theorem applyRepl {f : Nat} {caps : Array Value} {g : Int → Int} (he : ∀ args w, (callFunc f args).run Try.prog w = .ok (.enter f args) w)
    (A : Option Addr) (n c : Nat) (zss : List (List Int)) (lo hi p : Nat) (w : World) (h : RdR w lo hi A n zss) (hd : dealB zss = true) (hI : Inj g) (hO : Onto g)
    (hp : w.cell? ⟨p, 0, none⟩ = some (.func (.func f) #[] caps)) (hp2 : w.cell? ⟨p + 1, 0, none⟩ = some (.func (.func 126) #[] #[.pointer (some ⟨p, 0, none⟩)])) (hf : CardFn f caps g w) :
    Calls Try.prog 90 #[.agg #[.slice A n c], .slice (some ⟨w.heap.size, 0, none⟩) 1 1] (w.alloc (.cells #[.func (.func 128) #[] #[.pointer (some ⟨p + 1, 0, none⟩)]] 99))
      fun e w' => ∃ A' c', e = .returned (.agg #[.slice A' 4 c']) ∧ 4 ≤ c' ∧ OwnR w' w.heap.size w'.heap.size A' 4 (mapD g zss) ∧ Chg w w' 0 0 := by
  have ca := Chg.of_alloc w (.cells #[.func (.func 128) #[] #[.pointer (some ⟨p + 1, 0, none⟩)]] 99) 0 0
  have hbx := box_at w (.func (.func 128) #[] #[.pointer (some ⟨p + 1, 0, none⟩)]) 99
  have he2 := enters_of Try.func128 (by kernel_rfl) rfl
  have hs := replaceHands_sym he p (p + 1) _ (box_still hp ca) (box_still hp2 ca) (hf.later ca.to_below)
  refine (applySym (g := mapD g) he2 A n c zss lo hi _ (h.still ca) hd w.heap.size 0 1 1 (one_cell hbx) (by omega) (fun z hz => mapD_deal hI hO hz) hs).mono ?_
  rintro e w' ⟨A', c', rfl, hc, ho, ch⟩
  have hl : (iterN (mapD g) 1 zss).length = 4 := by rw [iterN, mapD_length]; exact ((deal_iff zss).1 hd).1
  rw [hl] at hc ho
  exact ⟨A', c', by rw [hl], hc, ho.more (by simp) (Nat.le_refl _), ca.trans ch⟩

end Go.Proofs.Ytdfmkikngifjmaa.Lib1
