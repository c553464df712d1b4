/-
  The places of a text.
-/
import Derived.Test.YtfohmepjedehfabRd6
import Derived.Test.YtfohmepjedehfabQt
import Derived.Lib.MapLaws
import Derived.Lib.OthersKept
namespace Go.Proofs.Ytfohmepjedehfab
set_option linter.unusedVariables false
set_option linter.unusedSimpArgs false
open Go.RowKit
theorem pre_bad {l : Bs} (h : l ≠ []) (h1 : (dL l).1 = 65533) : Lib.hasPrefix l [239, 191, 189] = !badL l := by
  cases hb : badL l with
  | true =>
    rw [badL_iff] at hb
    cases hp : Lib.hasPrefix l [239, 191, 189] with
    | false => rfl
    | true =>
      exfalso
      unfold Lib.hasPrefix at hp
      rw [List.isPrefixOf_iff_prefix] at hp
      obtain ⟨t, rfl⟩ := hp
      have := dec_enc (c := 65533) (by unfold okRune; omega) t
      rw [show enc 65533 = [239, 191, 189] from by decide] at this
      rw [this] at hb
      exact absurd hb.2 (by decide)
  | false =>
    have hn : ¬ ((dL l).1 = 65533 ∧ (dL l).2 = 1) := by intro e; rw [(badL_iff l).2 e] at hb; cases hb
    have := Lib.encode_decode l h hn
    rw [h1] at this
    have e : enc 65533 = l.take (dL l).2 := this
    unfold Lib.hasPrefix
    rw [Bool.not_false, List.isPrefixOf_iff_prefix, show ([239, 191, 189] : Bs) = enc 65533 from by decide, e]
    exact List.take_prefix _ _
theorem own_some {w : World} {B : Nat} {e : TypeId} {size n : Nat} {v : Value} {xs : List Value} (h : w.ownsRow B e size v n xs) (hn : 0 < n) : ∃ b c, v = .slice (some ⟨b, 0, none⟩) n c ∧ n ≤ c ∧ c ≤ maxLen ∧ B ≤ b ∧ b < w.heap.size ∧ Rd w (some ⟨b, 0, none⟩) xs := by
  obtain ⟨A, c, e1, hr, h1, h2⟩ := own_rdg h
  rcases h.2 with ⟨e2, e3⟩ | ⟨g, cap, cur, e2, _⟩
  · omega
  · have hl := h.lt g (by rw [e2]; rfl)
    rw [e1] at e2
    injection e2 with e2 _ _
    subst e2
    exact ⟨g, c, e1, h1, h2, hl.1, hl.2, hr⟩
theorem pcC_one (l : List Pc) : ∀ u ∈ pcC l, u.oneCell' = true := by
  intro u hu
  unfold pcC at hu
  rw [List.mem_flatMap] at hu
  obtain ⟨s, _, hs⟩ := hu
  simp only [List.mem_cons, List.not_mem_nil, or_false] at hs
  rcases hs with rfl | rfl <;> rfl
theorem infoPlace : (Try.prog.info? 135).map (fun i => (i.zero, i.size, i.bytes)) = some (some (.agg #[.int .i64 0, .int .i32 0]), 2, 16) := by kernel_rfl
/-- Places read as far as byte pos. -/
structure PlRel (w wr : World) (s : ByteArray) (v : Value) (pos : Nat) (done : List Pc) : Prop where
  own : wr.ownsRow (w.heap.size + 1) 135 2 v done.length (pcC done)
  it : wr.heap[w.heap.size]? = some (.stringIter s pos)
  below : RowKit.Below w.heap.size w wr
  all : done ++ placesAt pos ((bl s).drop pos) = placesAt 0 (bl s)
  few : done.length ≤ pos
  le : pos ≤ s.size
def PlOut (w : World) (s : ByteArray) (e : Ending) (w' : World) : Prop := ∃ b c, e = .returned (.slice (some ⟨b, 0, none⟩) (placesAt 0 (bl s)).length c) ∧ (placesAt 0 (bl s)).length ≤ c ∧ c ≤ maxLen ∧ w.heap.size ≤ b ∧ b < w'.heap.size ∧ Rd w' (some ⟨b, 0, none⟩) (pcC (placesAt 0 (bl s))) ∧ RowKit.Below w.heap.size w w'
theorem PlRel.next {w wr w2 w3 : World} {s : ByteArray} {v v' : Value} {pos wd : Nat} {done : List Pc} {q : Int} {x : Obj} (k : PlRel w wr s v pos done) (h2 : w2 = wr.iterAt w.heap.size s (pos + wd)) (hp : pos < s.size) (hd : dL ((bl s).drop pos) = (((dL ((bl s).drop pos)).1), wd)) (hw : 1 ≤ wd) (hle : pos + wd ≤ s.size)
    (hq : (if badL ((bl s).drop pos) then (-2 : Int) else ((dL ((bl s).drop pos)).1 : Int)) = q) (ho : w3.ownsRow (w.heap.size + 1) 135 2 v' (done.length + 1) (pcC done ++ [.int .i64 (pos : Nat), .int .i32 q])) (hg : (w2.alloc x).grownBy w3 v.ownBlock) : PlRel w w3 s v' (pos + wd) (done ++ [(pos, q)]) := by
  have hi2 : w2.heap[w.heap.size]? = some (.stringIter s (pos + wd)) := by rw [h2]; exact Lib.iterAt_heap wr _ s pos (pos + wd) k.it
  have hs2 : w2.heap.size = wr.heap.size := by rw [h2]; exact Lib.iterAt_size ..
  have hb2 : RowKit.Below w.heap.size w w2 := by rw [h2]; exact Lib.below_iterAt k.below (Nat.le_refl _) s (pos + wd)
  have hl := blk_lt k.it
  have hne : v.ownBlock ≠ some w.heap.size := fun e => by have := (k.own.lt _ e).1; omega
  have mg : Mv (fun i => v.ownBlock = some i) (w2.alloc x) w3 := (Mv.refl _ _).grown hg fun _ _ h => h
  refine ⟨by rw [List.length_append, pcC_app]; exact ho, ?_, ?_, ?_, by rw [List.length_append]; have := k.few; simp; omega, hle⟩
  · refine (mg.block _ (by rw [World.size_alloc]; omega) hne).trans ?_
    rw [Below.heap_alloc _ _ _ (by omega)]; exact hi2
  · refine (hb2.alloc (by have := k.below.size; omega) x).trans ((mg.belowB (B := w.heap.size) (by rw [World.size_alloc]; omega) fun i hi e => by have := (k.own.lt _ e).1; omega))
  · rw [← k.all, List.append_assoc]
    congr 1
    have hne : (bl s).drop pos ≠ [] := by
      intro e
      have := congrArg List.length e
      rw [List.length_drop, bl_len] at this
      simp at this; omega
    rw [placesAt_step pos hne, hq, List.drop_drop]
    have hw2 : (dL ((bl s).drop pos)).2 = wd := by rw [hd]
    rw [hw2]; rfl
end Go.Proofs.Ytfohmepjedehfab
