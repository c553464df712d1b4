/-
  What is asked of a list of points, as it came in.
-/
import Derived.Test.YtfohmepjedehfabPv
namespace Go.Proofs.Ytfohmepjedehfab
set_option linter.unusedVariables false
set_option linter.unusedSimpArgs false
open Go.ChangeShapes Go.WideShapes Go.ChangeAt Go.RowKit
/-- What is asked of a list. -/
structure Ak where
  lo : Int
  hi : Int
  t : Int
  width : Int
  back : Int
  seq : Int
def boxAk (x : Ak) : Array Value := #[.int .i64 x.lo, .int .i64 x.hi, .int .i64 x.t, .int .u64 x.width, .int .u64 x.back, .int .u64 x.seq]
set_option maxRecDepth 100000 in
theorem open_ask {H : Type} {enc : TypeId × Value → H} {W : World} {r : Reach} {b0 : Nat} {v : Value} {d : DataW H} {ps : List MemPlace}
    (hval : Value.okWide Try.prog W r b0 37 v) (h : DataW.Trod enc Try.prog W 0 (fun _ => true) true 37 v d ps) :
    ∃ x : Ak, v = .agg #[.int .i64 x.lo, .int .i64 x.hi, .int .i64 x.t, .int .u64 x.width, .int .u64 x.back, .int .u64 x.seq] := by
  obtain ⟨cs, rfl, hsz⟩ := okWide_struct Try.underlying37 hval
  have h6 : cs.size = 6 := hsz.trans (by kernel_rfl)
  obtain ⟨v0, v1, v2, v3, v4, v5, rfl⟩ : ∃ v0 v1 v2 v3 v4 v5, cs = #[v0, v1, v2, v3, v4, v5] := by
    obtain ⟨l⟩ := cs
    match l, h6 with
    | [a, b, c, d, e, f], _ => exact ⟨a, b, c, d, e, f, rfl⟩
  obtain ⟨fuel, hf⟩ := h
  obtain ⟨xs, n, _, _, _, hxl, hF⟩ := DataW.trod_struct Try.underlying37 hf
  match xs, hxl with
  | [y0, y1, y2, y3, y4, y5], _ =>
    have g0 := hF 0 _ rfl
    have g1 := hF 1 _ rfl
    have g2 := hF 2 _ rfl
    have g3 := hF 3 _ rfl
    have g4 := hF 4 _ rfl
    have g5 := hF 5 _ rfl
    rw [show Try.prog.cellsOf _ = 1 from by kernel_rfl] at g0 g1 g2 g3 g4 g5
    simp [Value.cells] at g0 g1 g2 g3 g4 g5
    obtain ⟨n0, e0, _, _⟩ := DataW.trod_int Try.underlying2 g0
    obtain ⟨n1, e1, _, _⟩ := DataW.trod_int Try.underlying2 g1
    obtain ⟨n2, e2, _, _⟩ := DataW.trod_int Try.underlying2 g2
    obtain ⟨n3, e3, _, _⟩ := DataW.trod_int Try.underlying23 g3
    obtain ⟨n4, e4, _, _⟩ := DataW.trod_int Try.underlying23 g4
    obtain ⟨n5, e5, _, _⟩ := DataW.trod_int Try.underlying23 g5
    simp at e0 e1 e2 e3 e4 e5
    exact ⟨⟨n0, n1, n2, n3, n4, n5⟩, by rw [e0, e1, e2, e3, e4, e5]⟩
theorem own_len_pt {w : World} {B n c : Nat} {A : Option Addr} {xs : List Value} (h : w.ownsRow B 25 3 (.slice A n c) n xs) : n ≤ c := by
  rcases h.2 with ⟨h1, h2⟩ | ⟨g', cap', cur, e, hB, hg, hnc, hcm, hcs, htk⟩
  · omega
  · injection e with e1 e2 e3; omega
theorem own_rd_of {w : World} {B n c : Nat} {A : Option Addr} {l : List Pt} (h : w.ownsRow B 25 3 (.slice A n c) n (pcells l)) (hn : l.length = n) : Rd w A (pcells l) := by
  subst hn
  obtain ⟨A', c', e, h1, -, -⟩ := own_rd_pt h
  injection e with e1 e2 e3
  rw [e1]; exact h1
end Go.Proofs.Ytfohmepjedehfab
