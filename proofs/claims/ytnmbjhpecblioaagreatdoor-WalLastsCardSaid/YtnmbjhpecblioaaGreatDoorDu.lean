/-
  A disk in memory, when one of its boxes is written, when names are taken away, when one is added.
-/
import Derived.Test.YtnmbjhpecblioaaGreatDoorDk
namespace Go.Proofs.YtnmbjhpecblioaaGreatDoor
set_option linter.unusedVariables false
set_option linter.unusedSimpArgs false
open Go.Maps Go.RowKit
theorem lenL_perm {L M : List Fl} (h : L.Perm M) : lenL L = lenL M := by unfold lenL; exact (h.map _).sum_nat
theorem lenL_cons (x : Fl) (L : List Fl) : lenL (x :: L) = x.2.1.length + lenL L := by simp [lenL]
theorem lenL_sub {L M : List Fl} (h : L.Sublist M) : lenL L ≤ lenL M := by
  induction h with
  | slnil => exact Nat.le_refl _
  | cons a _ ih => rw [lenL_cons]; omega
  | cons_cons a _ ih => rw [lenL_cons, lenL_cons]; omega
section
variable {w w' : World} {db mb room : Nat} {es : List Ent}
theorem DiskE.db_ne (h : DiskE w db mb room es) {e : Ent} (he : e ∈ es) : db ≠ e.bx ∧ e.v.ownBlock ≠ some db ∧ mb ≠ e.bx ∧ e.v.ownBlock ≠ some mb := by
  obtain ⟨h1, h2⟩ := h.at_ e he
  refine ⟨ne_blk h.box h1 (by decide), h2.ne h.box (by decide), fun x => map_notcells h.map h1 x.symm, fun x => ?_⟩
  obtain ⟨cs, hb⟩ := h2.blk x
  exact map_notcells h.map hb rfl
theorem DiskE.bx_ne (h : DiskE w db mb room es) {e f : Ent} (he : e ∈ es) (hf : f ∈ es) : e.v.ownBlock ≠ some f.bx := (h.at_ e he).2.ne (h.at_ f hf).1 (by decide)
theorem DiskE.upd (h : DiskE w db mb room es) {x x' : Ent} (hx : x ∈ es) (hnm : x'.nm = x.nm) (hbx : x'.bx = x.bx)
    (hbox : w'.heap[x.bx]? = some (.cells #[x'.v, .int .i64 (x'.n : Nat)] 92 (0, 0))) (hby : BytesAt w' x'.v x'.bs) (hrow : ∀ g, x'.v.ownBlock = some g → x.v.ownBlock = some g ∨ w.heap.size ≤ g)
    (hk : ∀ k, foot db mb es k → k ≠ x.bx → x.v.ownBlock ≠ some k → w'.heap[k]? = w.heap[k]?) (hfit : lenL ((updE es x').map val) ≤ room) (hn : x'.n ≤ x'.bs.length) : DiskE w' db mb room (updE es x') where
  box := by
    obtain ⟨h1, h2, -, -⟩ := h.db_ne hx
    exact (hk db (.inl rfl) h1 h2).trans h.box
  map := by
    obtain ⟨-, -, h1, h2⟩ := h.db_ne hx
    rw [dmap_upd (fun e he hee => by rw [hbx, srtE_one h.srt he hx (hee.trans hnm)]), updE_len]
    exact ownsMap_moved h.map (hk mb (.inr (.inl rfl)) h1 h2)
  srt := srtE_upd h.srt x'
  at_ e he := by
    rcases updE_mem he with ⟨rfl, -⟩ | ⟨he, hne⟩
    · rw [hbx]; exact ⟨hbox, hby⟩
    · rw [hnm] at hne
      obtain ⟨h1, h2⟩ := h.at_ e he
      obtain ⟨a1, a2⟩ := h.apart e he x hx hne
      refine ⟨(hk e.bx (.inr (.inr ⟨e, he, .inl rfl⟩)) a1 (h.bx_ne hx he)).trans h1, h2.moved fun g hg => hk g (.inr (.inr ⟨e, he, .inr hg⟩)) (fun e1 => ?_) (a2 g hg)⟩
      rw [e1] at hg; exact h.bx_ne he hx hg
  apart e he0 f hf0 hne := by
    rcases updE_mem he0 with ⟨rfl, -⟩ | ⟨he, hne1⟩
    · rcases updE_mem hf0 with ⟨rfl, -⟩ | ⟨hf, hne2⟩
      · exact absurd rfl hne
      · rw [hnm] at hne2
        obtain ⟨a1, a2⟩ := h.apart f hf x hx hne2
        refine ⟨by rw [hbx]; exact a1.symm, fun g hg hf' => ?_⟩
        rcases hrow g hg with h1 | h1
        · exact a2 g hf' h1
        · have := (h.at_ f hf).2.lt hf'; omega
    · rw [hnm] at hne1
      rcases updE_mem hf0 with ⟨rfl, -⟩ | ⟨hf, hne2⟩
      · obtain ⟨a1, a2⟩ := h.apart e he x hx hne1
        refine ⟨by rw [hbx]; exact a1, fun g hg hf' => ?_⟩
        rcases hrow g hf' with h1 | h1
        · exact a2 g hg h1
        · have := (h.at_ e he).2.lt hg; omega
      · exact h.apart e he f hf hne
  fits := ⟨hfit, h.fits.2.1, by rw [updE_len]; exact h.fits.2.2⟩
  each e he := by
    rcases updE_mem he with ⟨rfl, -⟩ | ⟨he, hne⟩
    · exact ⟨hn, by rw [hnm]; exact (h.each x hx).2⟩
    · exact h.each e he
theorem DiskE.sub (h : DiskE w db mb room es) {es' : List Ent} (hs : es'.Sublist es) {n : Nat} (hm : w'.ownsMap Tryz.prog 9 ptrE mb n (dmap es')) (hk : ∀ k, foot db mb es k → k ≠ mb → w'.heap[k]? = w.heap[k]?) : DiskE w' db mb room es' where
  box := (hk db (.inl rfl) (map_notcells h.map h.box)).trans h.box
  map := ownsMap_tight hm
  srt := List.Pairwise.sublist hs h.srt
  at_ e he := by
    have he := hs.subset he
    obtain ⟨h1, h2⟩ := h.at_ e he
    obtain ⟨-, -, a3, a4⟩ := h.db_ne he
    exact ⟨(hk e.bx (.inr (.inr ⟨e, he, .inl rfl⟩)) a3.symm).trans h1, h2.moved fun g hg => hk g (.inr (.inr ⟨e, he, .inr hg⟩)) (fun e1 => a4 (e1 ▸ hg))⟩
  apart e he f hf hne := h.apart e (hs.subset he) f (hs.subset hf) hne
  fits := ⟨Nat.le_trans (lenL_sub (hs.map val)) h.fits.1, h.fits.2.1, Nat.le_trans hs.length_le h.fits.2.2⟩
  each e he := h.each e (hs.subset he)
theorem DiskE.add (h : DiskE w db mb room es) {es2 : List Ent} (hs : es2.Sublist es) {x : Ent} (hx : ∀ e ∈ es2, e.nm ≠ x.nm) {n : Nat} (hm : w'.ownsMap Tryz.prog 9 ptrE mb n (dmap (insE x es2))) (hk : ∀ k, foot db mb es k → k ≠ mb → w'.heap[k]? = w.heap[k]?)
    (hbox : w'.heap[x.bx]? = some (.cells #[x.v, .int .i64 (x.n : Nat)] 92 (0, 0))) (hby : BytesAt w' x.v x.bs) (hap : ∀ e ∈ es2, e.bx ≠ x.bx ∧ ∀ g, e.v.ownBlock = some g → x.v.ownBlock ≠ some g)
    (hfit : lenL (es2.map val) + x.bs.length ≤ room) (hlen : es2.length < 64) (hn : x.n ≤ x.bs.length ∧ x.nm.size ≤ 32) : DiskE w' db mb room (insE x es2) where
  box := (hk db (.inl rfl) (map_notcells h.map h.box)).trans h.box
  map := ownsMap_tight hm
  srt := srtE_ins (List.Pairwise.sublist hs h.srt) hx
  at_ e he := by
    rcases insE_mem.1 he with rfl | he
    · exact ⟨hbox, hby⟩
    · have he := hs.subset he
      obtain ⟨h1, h2⟩ := h.at_ e he
      obtain ⟨-, -, a3, a4⟩ := h.db_ne he
      exact ⟨(hk e.bx (.inr (.inr ⟨e, he, .inl rfl⟩)) a3.symm).trans h1, h2.moved fun g hg => hk g (.inr (.inr ⟨e, he, .inr hg⟩)) (fun e1 => a4 (e1 ▸ hg))⟩
  apart e he0 f hf0 hne := by
    rcases insE_mem.1 he0 with rfl | he
    · rcases insE_mem.1 hf0 with rfl | hf
      · exact absurd rfl hne
      · obtain ⟨a1, a2⟩ := hap f hf
        exact ⟨a1.symm, fun g hg hf' => a2 g hf' hg⟩
    · rcases insE_mem.1 hf0 with rfl | hf
      · exact hap e he
      · exact h.apart e (hs.subset he) f (hs.subset hf) hne
  fits := by
    refine ⟨?_, h.fits.2.1, by rw [insE_len]; omega⟩
    rw [lenL_perm ((insE_perm x es2).map val), List.map_cons, lenL_cons]
    show x.bs.length + _ ≤ room
    omega
  each e he := by
    rcases insE_mem.1 he with rfl | he
    · exact hn
    · exact h.each e (hs.subset he)
theorem del_len : ∀ {es : List Ent} {x : Ent}, SrtE es → x ∈ es → lenL ((delE es x.nm).map val) + x.bs.length = lenL (es.map val) ∧ (delE es x.nm).length + 1 = es.length
  | y :: r, x, hs, hx => by
    have hs' := hs
    unfold SrtE at hs; rw [List.pairwise_cons] at hs
    unfold delE
    rw [List.filter_cons, List.map_cons, lenL_cons]
    rcases List.mem_cons.1 hx with rfl | hx
    · have : (r.filter fun e => !decide (e.nm = x.nm)) = r := by
        rw [List.filter_eq_self]; intro e he
        have : e.nm ≠ x.nm := fun h => by have := hs.1 e he; rw [h] at this; exact ltB_irrefl _ this
        simp [this]
      rw [this]
      simp only [decide_true, Bool.not_true, Bool.false_eq_true, if_false]
      exact ⟨by show _ = x.bs.length + _; omega, rfl⟩
    · have hne : y.nm ≠ x.nm := fun h => by have := hs.1 x hx; rw [h] at this; exact ltB_irrefl _ this
      obtain ⟨h1, h2⟩ := del_len hs.2 hx
      unfold delE at h1 h2
      simp only [hne, decide_false, Bool.not_false, if_true, List.map_cons, lenL_cons, List.length_cons]
      omega
end
/-- A disk whose blocks lie in S. -/
def DiskIs (w : World) (S : Nat → Prop) (db room : Nat) (L : List Fl) : Prop := ∃ mb es, DiskE w db mb room es ∧ (∀ k, foot db mb es k → S k) ∧ L = es.map val
theorem DiskIs.moved {w w' : World} {S : Nat → Prop} {db room : Nat} {L : List Fl} (h : DiskIs w S db room L) (hk : ∀ k, k < w.heap.size → S k → w'.heap[k]? = w.heap[k]?) : DiskIs w' S db room L := by
  obtain ⟨mb, es, h1, h2, h3⟩ := h
  exact ⟨mb, es, h1.moved fun k hf => hk k (h1.lt hf) (h2 k hf), h2, h3⟩
theorem DiskIs.below {w w' : World} {S : Nat → Prop} {db room : Nat} {L : List Fl} (h : DiskIs w S db room L) (hb : Below w.heap.size w w') : DiskIs w' S db room L := h.moved fun k hlt _ => hb.block k hlt
theorem DiskIs.mono {w : World} {S T : Nat → Prop} {db room : Nat} {L : List Fl} (h : DiskIs w S db room L) (hS : ∀ k, k < w.heap.size → S k → T k) : DiskIs w T db room L := by
  obtain ⟨mb, es, h1, h2, h3⟩ := h
  exact ⟨mb, es, h1, fun k hf => hS k (h1.lt hf) (h2 k hf), h3⟩
end Go.Proofs.YtnmbjhpecblioaaGreatDoor
