/-
  Either of two parts.
-/
import Derived.Test.YtfohmepjedehfabQbt
import Derived.Test.YtfohmepjedehfabQbf
namespace Go.Proofs.Ytfohmepjedehfab
open Go.RowKit
theorem either_any (a b : Prt) (w : World) : Calls Try.prog 77 #[partV a, partV b] w fun e w' => e = .returned (partV (eitherP a b)) ∧ RowKit.Below w.heap.size w w' := by
  obtain ⟨f, l, em⟩ := a
  cases em with
  | true => exact either_t f l b w
  | false => exact either_f f l b w
end Go.Proofs.Ytfohmepjedehfab
