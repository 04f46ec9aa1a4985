/- The law of the order. -/
import Derived.Test.YtbngibkbijibjaaDoorMgOrdA
import Derived.Test.YtbngibkbijibjaaDoorMgOrdB
import Derived.Test.YtbngibkbijibjaaDoorMgOrdC
import Derived.Test.YtbngibkbijibjaaDoorMgOrdD
namespace Go.Proofs.YtbngibkbijibjaaDoor.Mg
open Go.RowKit
open Go.Proofs.YtbngibkbijibjaaDoor.Me
set_option linter.unusedVariables false
set_option linter.unusedSimpArgs false

theorem order_any (a b c : Id4) (w : World) : Calls Tryd.prog 9 #[.agg (idC a), .agg (idC b), .agg (idC c)] w fun e w' => e = .returned (.bool true) ∧ Below w.heap.size w w' := by
  obtain ⟨W3, S, h, hs, H⟩ := has a b c w
  by_cases ka : chkN a = 0
  all_goals by_cases kb : chkN b = 0
  all_goals rcases three a b with ⟨x, y, e⟩ | ⟨x, y, e⟩ | ⟨x, y, e⟩
  · by_cases hz : ltB b c = true
    · exact ord_xttoo a b c w W3 S h hs H x y e hz (ltB_trans x hz) ka kb
    · exact ord_xtfoo a b c w W3 S h hs H x y e (Bool.eq_false_iff.2 hz) ka kb
  · exact ord_xfoo a b c w W3 S h hs H x y e ka kb
  · exact ord_eqoo a b c w W3 S h hs H x y e ka kb
  · by_cases hz : ltB b c = true
    · exact ord_xtton a b c w W3 S h hs H x y e hz (ltB_trans x hz) ka kb
    · exact ord_xtfon a b c w W3 S h hs H x y e (Bool.eq_false_iff.2 hz) ka kb
  · exact ord_xfon a b c w W3 S h hs H x y e ka kb
  · exact ord_eqon a b c w W3 S h hs H x y e ka kb
  · by_cases hz : ltB b c = true
    · exact ord_xttno a b c w W3 S h hs H x y e hz (ltB_trans x hz) ka kb
    · exact ord_xtfno a b c w W3 S h hs H x y e (Bool.eq_false_iff.2 hz) ka kb
  · exact ord_xfno a b c w W3 S h hs H x y e ka kb
  · exact ord_eqno a b c w W3 S h hs H x y e ka kb
  · by_cases hz : ltB b c = true
    · exact ord_xttnn a b c w W3 S h hs H x y e hz (ltB_trans x hz) ka kb
    · exact ord_xtfnn a b c w W3 S h hs H x y e (Bool.eq_false_iff.2 hz) ka kb
  · exact ord_xfnn a b c w W3 S h hs H x y e ka kb
  · exact ord_eqnn a b c w W3 S h hs H x y e ka kb
theorem order {P0 P1 P2 P3 P4 P5 P6 P7 P8 P9 P10 P11 : Prop} (o d e c p q r s x y z u : Int) (w : World) (h0 : P0) (h1 : P1) (h2 : P2) (h3 : P3) (h4 : P4) (h5 : P5) (h6 : P6) (h7 : P7) (h8 : P8) (h9 : P9) (h10 : P10) (h11 : P11) : Calls Tryd.prog 9 #[.agg #[.int .i64 o, .int .i64 d, .int .i64 e, .int .i64 c], .agg #[.int .i64 p, .int .i64 q, .int .i64 r, .int .i64 s], .agg #[.int .i64 x, .int .i64 y, .int .i64 z, .int .i64 u]] w fun e w' => e = .returned (.bool true) ∧ Below w.heap.size w w' :=
  order_any ⟨o, d, e, c⟩ ⟨p, q, r, s⟩ ⟨x, y, z, u⟩ w
end Go.Proofs.YtbngibkbijibjaaDoor.Mg
