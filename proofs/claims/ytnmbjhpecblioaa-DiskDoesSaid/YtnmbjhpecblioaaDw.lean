/-
  A disk's Swap.
-/
import Derived.Test.YtnmbjhpecblioaaDwn
namespace Go.Proofs.Ytnmbjhpecblioaa
set_option linter.unusedVariables false
set_option linter.unusedSimpArgs false
open Go.Maps Go.RowKit
section
set_option maxHeartbeats 1600000
set_option maxRecDepth 100000
variable {w : World} {db mb room : Nat} {es : List Ent}
theorem swap_any (h : DiskE w db mb room es) (s t : ByteArray) (hs : s.size ≤ maxLen) : Calls Try.prog 26 #[.pointer (some ⟨db, 0, none⟩), .string s, .string t] w (MutOut w db mb room es (swapD (es.map val) s t)) := by
  have HF := Lib.hid (find_any h s hs)
  have HN := Lib.hid (isname_any t w)
  unfold swapD
  rw [look_val]
  cases hl : lookE es s with
  | none =>
    rw [hl] at HF
    simp only [findV] at HF
    simp only [Option.map_none]
    go_enter Try.func26, Try.ntmps26
    go_wp2_with (first
      | (go_at_call 23; refine HF.out.mono ?_; rintro e w1 ⟨rfl, rfl⟩)
      | fail)
    go_ret
    exact MutOut.same h
  | some x =>
    rw [hl] at HF
    simp only [findV] at HF
    simp only [Option.map_some]
    rw [show (val x).2.1 = x.bs from rfl, show (val x).2.2 = x.n from rfl]
    obtain ⟨hm, rfl⟩ := lookE_mem hl
    obtain ⟨hb, hv⟩ := h.at_ x hm
    obtain ⟨A, c, e1, -, hc, -⟩ := hv.rd
    have d0 := cell_blk h.box 0; have d1 := cell_blk h.box 1
    have c0 := cell_blk hb 0; have c1 := cell_blk hb 1
    simp only [List.getElem?_toArray, List.getElem?_cons_succ, List.getElem?_cons_zero] at c0 c1 d0 d1
    rw [e1] at c0
    have HD := Lib.hid h; have HM := Lib.hid hm
    have hle := h.len hm
    have hes := h.fits.2.2
    clear hl hb hv e1 hc h hm
    cases ht : titleB (bl t) with
    | false =>
      rw [ht] at HN
      rw [if_pos rfl]
      go_enter Try.func26, Try.ntmps26
      go_wp2_with (first
        | (go_at_call 23; refine HF.out.mono ?_; rintro e w1 ⟨rfl, rfl⟩)
        | (go_at_call 22; refine HN.out.mono ?_; rintro e w2 ⟨rfl, rfl⟩)
        | fail)
      go_ret
      exact MutOut.same HD.out
    | true =>
      rw [ht] at HN
      rw [if_neg (by simp)]
      have hts := title_size ht
      clear ht
      by_cases hn : x.n < x.bs.length
      · rw [if_pos hn]
        have hn' : (x.n : Int) < (x.bs.length : Int) := by omega
        go_enter Try.func26, Try.ntmps26
        go_wp2_with (first
          | (go_at_call 23; refine HF.out.mono ?_; rintro e w1 ⟨rfl, rfl⟩)
          | (go_at_call 22; refine HN.out.mono ?_; rintro e w2 ⟨rfl, rfl⟩)
          | fail)
        go_quiet (fail)
        go_wp2
        go_ret
        exact MutOut.sameN HD.out _
      · rw [if_neg hn]
        have hn' : ¬ (x.n : Int) < (x.bs.length : Int) := by omega
        go_enter Try.func26, Try.ntmps26
        go_wp2_with (first
          | (go_at_call 23; refine HF.out.mono ?_; rintro e w1 ⟨rfl, rfl⟩)
          | (go_at_call 22; refine HN.out.mono ?_; rintro e w2 ⟨rfl, rfl⟩)
          | fail)
        go_quiet (fail)
        have HQ := Lib.hid (HD.out.drewN nq)
        go_wp2_with (first
          | (at_delete; go_must (refine wpList_del_ptr rfl _ _ 47 9 rfl 52 Try.underlying9 Try.underlying47 mb _ es rfl HQ.out.map x.nm rfl hs ?_; intro w3 hown3 hturn3; have e0 := (hturn3.grown.block db (HQ.out.lt (.inl rfl)) (fun e => map_notcells HQ.out.map HQ.out.box (by injection e))).trans HQ.out.box; have g0 := cell_blk e0 0; simp only [List.getElem?_toArray, List.getElem?_cons_zero] at g0; clear e0))
          | (at_mapUpdate; go_must (refine wpList_put_ptr rfl _ _ _ 47 rfl 9 52 Try.underlying9 Try.underlying47 mb es.length (delE es x.nm) rfl hown3 (by unfold maxLen; omega) { x with nm := t } rfl (by unfold maxLen; show t.size ≤ _; omega) rfl ?_; intro w4 hown4 hturn4))
          | fail)
        go_ret
        exact (MutOut.ren HQ.out HM.out hts hown4 (hturn3.trans hturn4)).fromN
end
end Go.Proofs.Ytnmbjhpecblioaa
