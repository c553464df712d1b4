/-
  A disk's files, one of them under another name; draws let by.
-/
import Derived.Test.YtnmbjhpecblioaaDe
namespace Go.Proofs.Ytnmbjhpecblioaa
set_option linter.unusedVariables false
set_option linter.unusedSimpArgs false
open Go.Maps Go.RowKit
theorem title_size {s : ByteArray} (h : titleB (bl s) = true) : s.size ≤ 32 := by
  unfold titleB at h; rw [bl_len] at h; simp at h; omega
section
set_option maxHeartbeats 1600000
set_option maxRecDepth 100000
variable {w : World} {db mb room : Nat} {es : List Ent}
theorem DiskE.drewN (h : DiskE w db mb room es) (q : Nat) : DiskE (w.drewN q) db mb room es := h.moved fun k _ => rfl
theorem MutOut.sameN {c : Int} (h : DiskE w db mb room es) (q : Nat) : MutOut w db mb room es (c, es.map val) (.returned (.int .i64 c)) (w.drewN q) :=
  ⟨rfl, es, h.drewN q, rfl, (Mv.refl _ _).drewN q, fun k hk => .inl hk⟩
theorem MutOut.fromN {r : Int × List Fl} {e : Ending} {w' : World} {q : Nat} (h : MutOut (w.drewN q) db mb room es r e w') : MutOut w db mb room es r e w' := by
  obtain ⟨h1, es', h2, h3, h4, h5⟩ := h
  exact ⟨h1, es', h2, h3, ⟨h4.os, h4.tape, h4.output, h4.size, h4.block⟩, h5⟩
theorem MutOut.ren (h : DiskE w db mb room es) {x : Ent} (hm : x ∈ es) {t : ByteArray} (ht : t.size ≤ 32) {n : Nat} {w' : World} (hown : w'.ownsMap Try.prog 9 ptrE mb n (dmap (putE (delE es x.nm) { x with nm := t }))) (hturn : w.mapTurned w' mb) :
    MutOut w db mb room es (0, putL (delL (es.map val) x.nm) (t, x.bs, x.n)) (.returned (.int .i64 0)) w' := by
  have hsub : (delE (delE es x.nm) t).Sublist es := (delE_sub _ t).trans (delE_sub es x.nm)
  obtain ⟨hb, hv⟩ := h.at_ x hm
  obtain ⟨-, -, a3, a4⟩ := h.db_ne hm
  have hblk : ∀ k, foot db mb es k → k ≠ mb → w'.heap[k]? = w.heap[k]? := fun k hk hne => hturn.grown.block k (h.lt hk) (fun e => hne (by injection e))
  obtain ⟨l1, l2⟩ := del_len h.srt hm
  have l3 := lenL_sub ((delE_sub (delE es x.nm) t).map val)
  have l4 := (delE_sub (delE es x.nm) t).length_le
  have hD := h.add (w' := w') hsub (x := { x with nm := t }) (fun e he => (delE_mem.1 he).2) hown hblk ((hblk x.bx (.inr (.inr ⟨x, hm, .inl rfl⟩)) a3.symm).trans hb)
    (hv.moved fun g hg => hblk g (.inr (.inr ⟨x, hm, .inr hg⟩)) (fun e => a4 (e ▸ hg))) (fun e he => by
      have h1 := (delE_mem.1 (delE_mem.1 he).1)
      exact h.apart e h1.1 x hm h1.2) (by have := h.fits.1; show _ + x.bs.length ≤ room; omega) (by have := h.fits.2.2; omega) ⟨(h.each x hm).1, ht⟩
  refine ⟨rfl, _, hD, ?_, (Mv.refl _ w).grown hturn.grown (fun k _ e => by injection e with e; exact .inr (.inl e.symm)), fun k hk => .inl ?_⟩
  · rw [del_val]; exact (put_val (delE es x.nm) { x with nm := t }).symm
  · rcases hk with hk | hk | ⟨e, he, hk⟩
    · exact .inl hk
    · exact .inr (.inl hk)
    · rcases insE_mem.1 he with rfl | he
      · exact .inr (.inr ⟨x, hm, hk⟩)
      · exact .inr (.inr ⟨e, hsub.subset he, hk⟩)
end
end Go.Proofs.Ytnmbjhpecblioaa
