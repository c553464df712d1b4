/-
  A disk's Swap.
-/
import Derived.Test.YtinjdlplbficiaaDe
namespace Go.Proofs.Ytinjdlplbficiaa
set_option linter.unusedVariables false
set_option linter.unusedSimpArgs false
open Go.Maps Go.RowKit
theorem title_size {s : ByteArray} (h : titleB (bl s) = true) : s.size ≤ 32 := by
  unfold titleB at h; rw [bl_len] at h; simp at h; omega
section
set_option maxHeartbeats 1600000
set_option maxRecDepth 100000
variable {w : World} {db mb room : Nat} {es : List Ent}
theorem DiskE.drewN (h : DiskE w db mb room es) (q : Nat) : DiskE (w.drewN q) db mb room es := h.moved fun k _ => rfl
theorem MutOut.sameN {c : Int} (h : DiskE w db mb room es) (q : Nat) : MutOut w db mb room es (c, es.map val) (.returned (.int .i64 c)) (w.drewN q) :=
  ⟨rfl, es, h.drewN q, rfl, (Mv.refl _ _).drewN q, fun k hk => .inl hk⟩
theorem MutOut.fromN {r : Int × List Fl} {e : Ending} {w' : World} {q : Nat} (h : MutOut (w.drewN q) db mb room es r e w') : MutOut w db mb room es r e w' := by
  obtain ⟨h1, es', h2, h3, h4, h5⟩ := h
  exact ⟨h1, es', h2, h3, ⟨h4.os, h4.tape, h4.output, h4.size, h4.block⟩, h5⟩
theorem MutOut.ren (h : DiskE w db mb room es) {x : Ent} (hm : x ∈ es) {t : ByteArray} (ht : t.size ≤ 32) {n : Nat} {w' : World} (hown : w'.ownsMap Try.prog 9 ptrE mb n (dmap (putE (delE es x.nm) { x with nm := t }))) (hturn : w.mapTurned w' mb) :
    MutOut w db mb room es (0, putL (delL (es.map val) x.nm) (t, x.bs, x.n)) (.returned (.int .i64 0)) w' := by
  have hsub : (delE (delE es x.nm) t).Sublist es := (delE_sub _ t).trans (delE_sub es x.nm)
  obtain ⟨hb, hv⟩ := h.at_ x hm
  obtain ⟨-, -, a3, a4⟩ := h.db_ne hm
  have hblk : ∀ k, foot db mb es k → k ≠ mb → w'.heap[k]? = w.heap[k]? := fun k hk hne => hturn.grown.block k (h.lt hk) (fun e => hne (by injection e))
  obtain ⟨l1, l2⟩ := del_len h.srt hm
  have l3 := lenL_sub ((delE_sub (delE es x.nm) t).map val)
  have l4 := (delE_sub (delE es x.nm) t).length_le
  have hD := h.add (w' := w') hsub (x := { x with nm := t }) (fun e he => (delE_mem.1 he).2) hown hblk ((hblk x.bx (.inr (.inr ⟨x, hm, .inl rfl⟩)) a3.symm).trans hb)
    (hv.moved fun g hg => hblk g (.inr (.inr ⟨x, hm, .inr hg⟩)) (fun e => a4 (e ▸ hg))) (fun e he => by
      have h1 := (delE_mem.1 (delE_mem.1 he).1)
      exact h.apart e h1.1 x hm h1.2) (by have := h.fits.1; show _ + x.bs.length ≤ room; omega) (by have := h.fits.2.2; omega) ⟨(h.each x hm).1, ht⟩
  refine ⟨rfl, _, hD, ?_, (Mv.refl _ w).grown hturn.grown (fun k _ e => by injection e with e; exact .inr (.inl e.symm)), fun k hk => .inl ?_⟩
  · rw [del_val]; exact (put_val (delE es x.nm) { x with nm := t }).symm
  · rcases hk with hk | hk | ⟨e, he, hk⟩
    · exact .inl hk
    · exact .inr (.inl hk)
    · rcases insE_mem.1 he with rfl | he
      · exact .inr (.inr ⟨x, hm, hk⟩)
      · exact .inr (.inr ⟨e, hsub.subset he, hk⟩)
theorem swap_any (h : DiskE w db mb room es) (s t : ByteArray) (hs : s.size ≤ maxLen) : Calls Try.prog 36 #[.pointer (some ⟨db, 0, none⟩), .string s, .string t] w (MutOut w db mb room es (swapD (es.map val) s t)) := by
  have HF := Lib.hid (find_any h s hs)
  have HN := Lib.hid (isname_any t w)
  unfold swapD
  rw [look_val]
  cases hl : lookE es s with
  | none =>
    rw [hl] at HF
    simp only [findV] at HF
    simp only [Option.map_none]
    go_enter Try.func36, Try.ntmps36
    go_wp2_with (first
      | (go_at_call 48; refine HF.out.mono ?_; rintro e w1 ⟨rfl, rfl⟩)
      | fail)
    go_ret
    exact MutOut.same h
  | some x =>
    rw [hl] at HF
    simp only [findV] at HF
    simp only [Option.map_some]
    rw [show (val x).2.1 = x.bs from rfl, show (val x).2.2 = x.n from rfl]
    obtain ⟨hm, rfl⟩ := lookE_mem hl
    obtain ⟨hb, hv⟩ := h.at_ x hm
    obtain ⟨A, c, e1, -, hc, -⟩ := hv.rd
    have d0 := cell_blk h.box 0; have d1 := cell_blk h.box 1
    have c0 := cell_blk hb 0; have c1 := cell_blk hb 1
    simp only [List.getElem?_toArray, List.getElem?_cons_succ, List.getElem?_cons_zero] at c0 c1 d0 d1
    rw [e1] at c0
    have HD := Lib.hid h; have HM := Lib.hid hm
    have hle := h.len hm
    have hes := h.fits.2.2
    clear hl hb hv e1 hc h hm
    cases ht : titleB (bl t) with
    | false =>
      rw [ht] at HN
      rw [if_pos rfl]
      go_enter Try.func36, Try.ntmps36
      go_wp2_with (first
        | (go_at_call 48; refine HF.out.mono ?_; rintro e w1 ⟨rfl, rfl⟩)
        | (go_at_call 47; refine HN.out.mono ?_; rintro e w2 ⟨rfl, rfl⟩)
        | fail)
      go_ret
      exact MutOut.same HD.out
    | true =>
      rw [ht] at HN
      rw [if_neg (by simp)]
      have hts := title_size ht
      clear ht
      by_cases hn : x.n < x.bs.length
      · rw [if_pos hn]
        have hn' : (x.n : Int) < (x.bs.length : Int) := by omega
        go_enter Try.func36, Try.ntmps36
        go_wp2_with (first
          | (go_at_call 48; refine HF.out.mono ?_; rintro e w1 ⟨rfl, rfl⟩)
          | (go_at_call 47; refine HN.out.mono ?_; rintro e w2 ⟨rfl, rfl⟩)
          | fail)
        go_quiet (fail)
        go_wp2
        go_ret
        exact MutOut.sameN HD.out _
      · rw [if_neg hn]
        have hn' : ¬ (x.n : Int) < (x.bs.length : Int) := by omega
        go_enter Try.func36, Try.ntmps36
        go_wp2_with (first
          | (go_at_call 48; refine HF.out.mono ?_; rintro e w1 ⟨rfl, rfl⟩)
          | (go_at_call 47; refine HN.out.mono ?_; rintro e w2 ⟨rfl, rfl⟩)
          | fail)
        go_quiet (fail)
        have HQ := Lib.hid (HD.out.drewN nq)
        go_wp2_with (first
          | (at_delete; go_must (refine wpList_del_ptr rfl _ _ 67 9 rfl 81 Try.underlying9 Try.underlying67 mb _ es rfl HQ.out.map x.nm rfl hs ?_; intro w3 hown3 hturn3; have e0 := (hturn3.grown.block db (HQ.out.lt (.inl rfl)) (fun e => map_notcells HQ.out.map HQ.out.box (by injection e))).trans HQ.out.box; have g0 := cell_blk e0 0; simp only [List.getElem?_toArray, List.getElem?_cons_zero] at g0; clear e0))
          | (at_mapUpdate; go_must (refine wpList_put_ptr rfl _ _ _ 67 rfl 9 81 Try.underlying9 Try.underlying67 mb es.length (delE es x.nm) rfl hown3 (by unfold maxLen; omega) { x with nm := t } rfl (by unfold maxLen; show t.size ≤ _; omega) rfl ?_; intro w4 hown4 hturn4))
          | fail)
        go_ret
        exact (MutOut.ren HQ.out HM.out hts hown4 (hturn3.trans hturn4)).fromN
end
end Go.Proofs.Ytinjdlplbficiaa
