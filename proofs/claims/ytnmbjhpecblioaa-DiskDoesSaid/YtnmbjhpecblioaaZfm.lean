/-
  A disk and the plain answers' disk beside it, of the same files; a disk that is left behind.
-/
import Derived.Test.YtnmbjhpecblioaaZfk
namespace Go.Proofs.Ytnmbjhpecblioaa
set_option linter.unusedVariables false
set_option linter.unusedSimpArgs false
open Go.RowKit
/-- A disk and a plain disk beside one another. -/
structure DoesD (B : Nat) (W w : World) (adb amb p room : Nat) (fv : Value) (es : List Ent) (ys : List RF) : Prop where
  a : DiskE w adb amb room es
  b : RefE w p room fv ys
  fa : ∀ k, foot adb amb es k → B ≤ k
  fb : ∀ k, footR p fv ys k → B ≤ k
  ap : ∀ k, foot adb amb es k → footR p fv ys k → False
  base : B ≤ W.heap.size
  low : Below B W w
section
variable {B : Nat} {W w w' : World} {adb amb p room : Nat} {fv : Value} {es : List Ent} {ys : List RF}
theorem DoesD.below (h : DoesD B W w adb amb p room fv es ys) (hb : Below w.heap.size w w') : DoesD B W w' adb amb p room fv es ys :=
  ⟨h.a.below hb, h.b.below hb, h.fa, h.fb, h.ap, h.base, h.low.trans (hb.mono (Nat.le_trans h.base h.low.size))⟩
theorem DoesD.moved (h : DoesD B W w adb amb p room fv es ys) {S : Nat → Prop} (hm : Mv S w w') (h1 : ∀ k, S k → B ≤ k) (h2 : ∀ k, S k → ¬ foot adb amb es k) (h3 : ∀ k, S k → ¬ footR p fv ys k) : DoesD B W w' adb amb p room fv es ys :=
  ⟨h.a.moved fun k hk => hm.block k (h.a.lt hk) fun hs => h2 k hs hk, h.b.moved fun k hk => hm.block k (h.b.lt hk) fun hs => h3 k hs hk, h.fa, h.fb, h.ap, h.base,
   h.low.trans (hm.belowB (Nat.le_trans h.base h.low.size) fun k hk hs => by have := h1 k hs; omega)⟩
/-- A call of the disk. -/
theorem DoesD.first (h : DoesD B W w adb amb p room fv es ys) {r : Int × List Fl} {e : Ending} (hM : MutOut w adb amb room es r e w') :
    e = .returned (.int .i64 r.1) ∧ ∃ es', DoesD B W w' adb amb p room fv es' ys ∧ es'.map val = r.2 ∧ Mv (foot adb amb es) w w' := by
  obtain ⟨h1, es', h2, h3, h4, h5⟩ := hM
  refine ⟨h1, es', ⟨h2, h.b.moved fun k hk => h4.block k (h.b.lt hk) (fun hf => h.ap k hf hk), fun k hk => ?_, h.fb, fun k hk hb => ?_, h.base, h.low.trans (h4.belowB (Nat.le_trans h.base h.low.size) fun k hk hf => by have := h.fa k hf; omega)⟩, h3, h4⟩
  · rcases h5 k hk with hf | hf
    · exact h.fa k hf
    · exact Nat.le_trans (Nat.le_trans h.base h.low.size) hf
  · rcases h5 k hk with hf | hf
    · exact h.ap k hf hb
    · have := h.b.lt hb; omega
/-- A call of the plain disk. -/
theorem DoesD.second (h : DoesD B W w adb amb p room fv es ys) {r : Int × List Fl} {e : Ending} (hM : RefOut2 w p room fv ys r e w') :
    e = .returned (.int .i64 r.1) ∧ ∃ fv' ys', DoesD B W w' adb amb p room fv' es ys' ∧ ys'.map rval = r.2 ∧ Mv (footR p fv ys) w w' := by
  obtain ⟨h1, ys', fv', h3, h2, h4, h5⟩ := hM
  refine ⟨h1, fv', ys', ⟨h.a.moved fun k hk => h4.block k (h.a.lt hk) (fun hf => h.ap k hk hf), h2, h.fa, fun k hk => ?_, fun k hk hb' => ?_, h.base, h.low.trans (h4.belowB (Nat.le_trans h.base h.low.size) fun k hk hf => by have := h.fb k hf; omega)⟩, h3, h4⟩
  · rcases h5 k hk with hf | hf
    · exact h.fb k hf
    · exact Nat.le_trans (Nat.le_trans h.base h.low.size) hf
  · rcases h5 k hb' with hf | hf
    · exact h.ap k hk hf
    · have := h.a.lt hk; omega
/-- An elder disk beside the two. -/
structure LeftD (B : Nat) (W w : World) (odb omb adb amb p room : Nat) (fv : Value) (os es : List Ent) (ys : List RF) : Prop where
  d : DoesD B W w adb amb p room fv es ys
  o : DiskE w odb omb room os
  fo : ∀ k, foot odb omb os k → B ≤ k
  ao : ∀ k, foot odb omb os k → ¬ foot adb amb es k
  bo : ∀ k, foot odb omb os k → ¬ footR p fv ys k
theorem LeftD.below {odb omb : Nat} {os : List Ent} (h : LeftD B W w odb omb adb amb p room fv os es ys) (hb : Below w.heap.size w w') : LeftD B W w' odb omb adb amb p room fv os es ys :=
  ⟨h.d.below hb, h.o.below hb, h.fo, h.ao, h.bo⟩
theorem LeftD.step {odb omb : Nat} {os : List Ent} (h : LeftD B W w odb omb adb amb p room fv os es ys) {r : Int × List Fl} {e : Ending} (hM : MutOut w odb omb room os r e w') :
    e = .returned (.int .i64 r.1) ∧ ∃ os', LeftD B W w' odb omb adb amb p room fv os' es ys ∧ Mv (foot odb omb os) w w' := by
  obtain ⟨h1, os', h2, h3, h4, h5⟩ := hM
  refine ⟨h1, os', ⟨h.d.moved h4 h.fo h.ao h.bo, h2, fun k hk => ?_, fun k hk hb => ?_, fun k hk hb => ?_⟩, h4⟩
  · rcases h5 k hk with hf | hf
    · exact h.fo k hf
    · exact Nat.le_trans (Nat.le_trans h.d.base h.d.low.size) hf
  · rcases h5 k hk with hf | hf
    · exact h.ao k hf hb
    · have := h.d.a.lt hb; omega
  · rcases h5 k hk with hf | hf
    · exact h.bo k hf hb
    · have := h.d.b.lt hb; omega
theorem LeftD.stepB {odb omb : Nat} {os : List Ent} (h : LeftD B W w odb omb adb amb p room fv os es ys) {r : Int × List Fl} {e : Ending} (hM : MutOut w odb omb room os r e w') {b : Nat} {o : Obj} (hg : w.heap[b]? = some o) (hn : ¬ foot odb omb os b) (hb : b < w.heap.size) :
    e = .returned (.int .i64 r.1) ∧ ∃ os', LeftD B W w' odb omb adb amb p room fv os' es ys ∧ w'.heap[b]? = some o ∧ ¬ foot odb omb os' b ∧ b < w'.heap.size := by
  obtain ⟨h1, os', h2, h3, h4, h5⟩ := hM
  refine ⟨h1, os', ⟨h.d.moved h4 h.fo h.ao h.bo, h2, fun k hk => ?_, fun k hk hb => ?_, fun k hk hb => ?_⟩, (h4.block b hb hn).trans hg, fun hk => ?_, Nat.lt_of_lt_of_le hb h4.size⟩
  · rcases h5 k hk with hf | hf
    · exact h.fo k hf
    · exact Nat.le_trans (Nat.le_trans h.d.base h.d.low.size) hf
  · rcases h5 k hk with hf | hf
    · exact h.ao k hf hb
    · have := h.d.a.lt hb; omega
  · rcases h5 k hk with hf | hf
    · exact h.bo k hf hb
    · have := h.d.b.lt hb; omega
  · rcases h5 b hk with hf | hf
    · exact hn hf
    · omega
/-- A copy of the disk goes on in its place. -/
theorem DoesD.cloned (h : DoesD B W w adb amb p room fv es ys) {cdb cmb : Nat} {cs : List Ent} (hb : Below w.heap.size w w') (hc : DiskE w' cdb cmb room cs) (hf : ∀ k, foot cdb cmb cs k → w.heap.size ≤ k) :
    LeftD B W w' adb amb cdb cmb p room fv es cs ys :=
  ⟨⟨hc, h.b.below hb, fun k hk => Nat.le_trans (Nat.le_trans h.base h.low.size) (hf k hk), h.fb, fun k h1 h2 => by have := hf k h1; have := h.b.lt h2; omega, h.base, (h.below hb).low⟩, h.a.below hb, h.fa, fun k h1 h2 => by have := hf k h2; have := h.a.lt h1; omega, fun k h1 h2 => h.ap k h1 h2⟩
end
end Go.Proofs.Ytnmbjhpecblioaa
