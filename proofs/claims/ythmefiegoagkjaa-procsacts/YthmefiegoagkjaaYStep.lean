/- An act to a table, beside a new one of the reference. -/
import Derived.Test.YthmefiegoagkjaaYDoes
import Derived.Test.YthmefiegoagkjaaYOpen
import Derived.Deep.RegionWith
namespace Go.Proofs.Ythmefiegoagkjaa.Y
open Go Go.RowKit

theorem row_less {hi hi2 : Nat} {w : World} {v : Value} {S : List Pr} (h : Row hi w v S) (hl : hi2 ≤ hi) : Row hi2 w v S := by
  refine ⟨h.1, ?_⟩
  rcases h.2 with h0 | ⟨g', cap', cur, e, hbs, rest⟩
  · exact .inl h0
  · exact .inr ⟨g', cap', cur, e, Nat.le_trans hl hbs, rest⟩
theorem tab_less {hi hi2 b : Nat} {ty : TypeId} {w : World} {v : Value} {x y : Int} {S : List Pr} (h : TabAt hi ty w b v x y S) (hl : hi2 ≤ hi) : TabAt hi2 ty w b v x y S := ⟨h.box, row_less h.row hl, Nat.le_trans hl h.hid⟩
theorem apt_new {hi lo b1 b2 : Nat} {ty ty2 : TypeId} {w1 w2 : World} {v1 v2 : Value} {x y x2 y2 : Int} {S S2 : List Pr} (h1 : TabAt hi ty w1 b1 v1 x y S) (h2 : TabAt lo ty2 w2 b2 v2 x2 y2 S2) (hl : w1.heap.size ≤ lo) : T.Apt v1 v2 := fun z hx hy => by
  have := (T.own_at h1.row hx).2.1
  have := (T.own_at h2.row hy).1
  omega
/-- A table, and a new one of the reference. -/
theorem pair_new {hi b1 b2 c most c2 most2 : Nat} {nx : Int} {S : List Pr} {w1 w2 : World} {v1 v2 : Value} (h1 : TabAt hi 57 w1 b1 v1 (most : Int) nx S) (hh : hi ≤ w1.heap.size) (h2 : TabAt w1.heap.size 34 w2 b2 v2 2 (most2 : Int) [first]) (hb : Below w1.heap.size w1 w2) (ok : Ok c most nx S) (ok2 : Ok c2 most2 2 [first]) : Pair hi b1 b2 c most nx S c2 most2 2 [first] w2 :=
  ⟨⟨v1, v2, h1.on hb, tab_less h2 hh, apt_new h1 h2 (Nat.le_refl _)⟩, ok, ok2⟩
/-- A round's table. -/
structure Rd (hi b1 c most : Nat) (v : Value) (nx : Int) (S : List Pr) (w0 W : World) : Prop where
  tab : TabAt hi 57 W b1 v (most : Int) nx S
  ok : Ok c most nx S
  below : Below w0.heap.size w0 W
  lo : w0.heap.size = hi
theorem Rd.on {hi b1 c most : Nat} {v : Value} {nx : Int} {S : List Pr} {w0 W W' : World} (h : Rd hi b1 c most v nx S w0 W) (hb : Below W.heap.size W W') : Rd hi b1 c most v nx S w0 W' := ⟨h.tab.on hb, h.ok, on_trans h.below hb, h.lo⟩
/-- What an act leaves. -/
def StepPost (hi b1 c most : Nat) (v : Value) (nx : Int) (S : List Pr) (xk xp xn : Int) (w0 wr : World) (e : Ending) (W : World) : Prop := ∃ B, e = .returned (.bool B) ∧ ∃ v', Rd hi b1 (c + 1) most v' (doX most nx S xk xp) (doS most nx S xk xp xn) w0 W ∧ ∀ lo u R, Row lo wr u R → T.Apt v u → Row lo W u R
theorem step_any {hi b1 b2 c most : Nat} {v v2 : Value} {nx : Int} {S : List Pr} {w0 wr W : World} (h : Rd hi b1 c most v nx S w0 wr) (h2 : TabAt wr.heap.size 34 W b2 v2 2 1 [first]) (hb : Below wr.heap.size wr W) (hc : c ≤ 900) (hm : most ≤ 64) (xk xp xn : Int) (hxn : -9223372036854775808 ≤ xn ∧ xn ≤ 9223372036854775807) :
    Calls Try.prog 9 #[ptr b1, ptr b2, .agg #[.int .i64 xk, .int .i64 xp, .int .i64 xn]] W (StepPost hi b1 c most v nx S xk xp xn w0 wr) := by
  have hlo : hi ≤ wr.heap.size := by rw [← h.lo]; exact h.below.size
  have h2' : TabAt hi 34 W b2 v2 2 ((1 : Nat) : Int) [first] := tab_less h2 hlo
  refine (does_any (h.tab.on hb) h2' (apt_new h.tab h2 (Nat.le_refl _)) h.ok (Ok.new (most := 1) (Nat.le_refl _)) hc (by omega) hm (by omega) (Nat.le_trans hlo hb.size) xk xp xn hxn).mono ?_
  rintro e W' ⟨B, rfl, _, hp, hbl, _, v1', v2', hT, hK⟩
  refine ⟨B, rfl, v1', ⟨hT, hp.ok, ?_, h.lo⟩, fun lo u R hr ha => (hK lo u R (rowS_on hr hb) ha fun z hx hy => ?_).1⟩
  · refine (on_trans h.below hb).trans ?_
    rw [h.lo]
    exact hbl
  · have := (T.own_at h2.row hx).1
    have := (T.own_at hr hy).2.1
    omega

end Go.Proofs.Ythmefiegoagkjaa.Y
