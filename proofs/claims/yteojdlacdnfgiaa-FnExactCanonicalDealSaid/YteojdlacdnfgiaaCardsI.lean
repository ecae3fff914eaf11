/- Chapter 3: the program's CardsOfDeal. -/
import Derived.Test.YteojdlacdnfgiaaCatI
import Derived.Test.YteojdlacdnfgiaaSortI
namespace Go.Proofs.Yteojdlacdnfgiaa.Lib1
open Go.RowKit
set_option maxRecDepth 100000

theorem flat_len {zss : List (List Int)} (h : dealB zss = true) : zss.flatten.length ≤ 52 := by
  obtain ⟨h4, hr, _⟩ := (deal_iff zss).1 h
  match zss, h4 with
  | [a, b, c, d], _ =>
    have h0 := hand_len (hr 0 (by omega)).1
    have h1 := hand_len (hr 1 (by omega)).1
    have h2 := hand_len (hr 2 (by omega)).1
    have h3 := hand_len (hr 3 (by omega)).1
    simp at h0 h1 h2 h3 ⊢
    omega

end Go.Proofs.Yteojdlacdnfgiaa.Lib1
