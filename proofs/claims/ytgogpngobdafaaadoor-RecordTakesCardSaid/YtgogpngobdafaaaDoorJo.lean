/-
  The points that bytes begin with: the program's own takePoints.
-/
import Derived.OwnWalk
import Derived.Test.YtgogpngobdafaaaDoorJm
namespace Go.Proofs.YtgogpngobdafaaaDoor
set_option linter.unusedVariables false
set_option linter.unusedSimpArgs false
open Go.RowKit
/-- What comes of the points that are there and of so many more. -/
def goE (acc : List En) (m : Nat) (p : En) (at_ : Nat) (b : Bs) : List En × Nat × Nat :=
  if (ensAt m p b).2.2 ≠ 0 then ([], 0, (ensAt m p b).2.2) else (acc ++ (ensAt m p b).1, at_ + (ensAt m p b).2.1, 0)
theorem goE_zero (acc : List En) (p : En) (at_ : Nat) (b : Bs) : goE acc 0 p at_ b = (acc, at_, 0) := by unfold goE; simp [ensAt]
theorem goE_start (n : Nat) (p : En) (b : Bs) : goE [] n p 0 b = ensAt n p b := by
  unfold goE
  by_cases h : (ensAt n p b).2.2 ≠ 0
  · rw [if_pos h]
    obtain ⟨h1, h2⟩ := ensAt_none n p b h
    exact Prod.ext h1.symm (Prod.ext h2.symm rfl)
  · rw [if_neg h, List.nil_append, Nat.zero_add]
    have : (ensAt n p b).2.2 = 0 := by omega
    exact Prod.ext rfl (Prod.ext rfl this.symm)
theorem goE_step (acc : List En) (m : Nat) (p : En) (at_ : Nat) (b : Bs) : goE acc (m + 1) p at_ b = if (enAt p b).2.2 ≠ 0 then ([], 0, (enAt p b).2.2) else goE (acc ++ [(enAt p b).1]) m (enAt p b).1 (at_ + (enAt p b).2.1) (b.drop (enAt p b).2.1) := by
  unfold goE
  rw [ensAt]
  by_cases h1 : (enAt p b).2.2 ≠ 0
  · rw [if_pos h1, if_pos h1, if_pos h1]
  · rw [if_neg h1, if_neg h1]
    by_cases h2 : (ensAt m (enAt p b).1 (b.drop (enAt p b).2.1)).2.2 ≠ 0
    · rw [if_pos h2, if_pos h2]
      simp only
      rw [if_pos h2]
    · rw [if_neg h2, if_neg h2]
      simp only [List.append_assoc, List.singleton_append, Nat.add_assoc]
      simp
theorem zerosE (n : Nat) : (madeCells (Value.agg #[.int .u32 0, .int .i64 0, .int .u64 0, .int .u64 0]).cells (n * 4)).toList = ecells (List.replicate n en0) := by
  apply List.ext_getElem?
  intro i
  simp only [madeCells, Value.cells]
  by_cases h : i < n * 4
  · have e4 : i = i / 4 * 4 + i % 4 := by omega
    have hk : i / 4 < (List.replicate n en0).length := by rw [List.length_replicate]; omega
    have hf := flat_at (f := enC) (m := 4) enC_len (List.replicate n en0) (i / 4) hk (i % 4) (by omega)
    rw [← e4] at hf
    unfold ecells
    rw [hf]
    have : i % 4 = 0 ∨ i % 4 = 1 ∨ i % 4 = 2 ∨ i % 4 = 3 := by omega
    rcases this with e | e | e | e <;> simp [h, e, enC, en0]
  · rw [List.getElem?_eq_none (by simp; omega), List.getElem?_eq_none (by rw [ecells_len, List.length_replicate]; omega)]
theorem made_fullE {w : World} {B g n : Nat} {xs : List Value} (h : w.ownsRow B 47 4 (.slice (some ⟨g, 0, none⟩) n n) n xs) (hx : xs.length = n * 4) : w.heap[g]? = some (.cells xs.toArray 47 (0, 0)) := by
  rcases h.2 with ⟨h1, _⟩ | ⟨g', cap', cur, e, hB, hg, hnc, hcm, hcs, htk⟩
  · cases h1
  · injection e with e1 e2 e3
    injection e1 with e1
    injection e1 with e1
    subst e1; subst e3
    have : cur.toList = xs := by rw [← htk, List.take_of_length_le (by rw [Array.length_toList, hcs]; exact Nat.le_refl _)]
    rw [hg, ← this]
theorem spl_en (acc : List En) (x : En) (m k : Nat) (hk : acc.length = k) : spl (ecells (acc ++ List.replicate (m + 1) en0)).toArray (k * 4) (enC x) = (ecells ((acc ++ [x]) ++ List.replicate m en0)).toArray := by
  subst hk
  unfold spl splice
  congr 1
  rw [List.replicate_succ, ecells_append, ecells_append, ecells_append, ecells_cons, ecells_one, List.toList_toArray, ← ecells_len acc, List.take_left, List.drop_append, List.drop_of_length_le (by rw [enC_len]; omega), List.nil_append, Nat.add_sub_cancel_left, List.append_assoc]
  rw [show (enC x).length = (enC en0).length from rfl, List.drop_left]
theorem undrewE {S : Nat → Prop} {w w' : World} (m : Mv S w.drew w') : Mv S w w' := ⟨m.os, m.tape, m.output, m.size, m.block⟩
theorem withE {F : World → Prop} {X : World} (T : World → Prop) (h1 : T X) (h2 : ∀ w, T w → F w) : F X := h2 X h1
theorem drew_heap {w : World} {g : Nat} {v : Option Obj} (h : w.heap[g]? = v) : w.drew.heap[g]? = v := h
theorem drew_box {w : World} {g : Nat} {x : En} (h : EBox w g x) : EBox w.drew g x := h
theorem Rdg.drew {w0 w : World} {gb ga : Nat} {A : Option Addr} {c p : Nat} {xs : Bs} (h : Rdg w0 gb ga A c xs p w) : Rdg w0 gb ga A c xs p w.drew := ⟨h.bx, h.at_, h.rd, h.be.trans ⟨rfl, rfl, rfl, Nat.le_refl _, fun _ _ => rfl⟩, h.hi, h.le, h.lc, h.sm⟩
theorem enC_one (p : En) : ∀ v ∈ enC p, v.oneCell' = true := by
  intro v hv
  simp only [enC, List.mem_cons, List.not_mem_nil, or_false] at hv
  rcases hv with rfl | rfl | rfl | rfl <;> rfl
theorem step_store_en {w : World} {ops : Array Oper} {o : Oper} {a : Act} {K : Act → World → Prop} {Q : Exit → Act → World → Prop} {E : Prop} (hgd : o.guard = none) (x y : Operand)
    (ho : o.op = .store 47 x y) (g off : Nat) (cs : Array Value) (p : En) (hx : a.eval x = .pointer (some ⟨g, off, none⟩)) (hy : a.eval y = aggEn p) (hg : w.heap[g]? = some (.cells cs 47 (0, 0))) (hsz : off + 4 ≤ cs.size)
    (h : ∀ w', w'.heap[g]? = some (.cells (spl cs off (enC p)) 47 (0, 0)) → Mv (fun k => k = g) w w' → K (a.put o.dst undef) w') : if Region.wanted o (yielded ops a.tmps) = true then Oper.wp Tryd.prog o a w K Q else E := by
  have hw : Region.wanted o (yielded ops a.tmps) = true := by simp [Region.wanted, hgd]
  rw [if_pos hw]
  unfold Oper.wp execOp
  have hr := run_store_agg (P := Tryd.prog) w g off 47 47 cs (enC p) hg (by kernel_rfl) hsz (enC_one p)
  simp only [ho, hx, hy, Instr.storeAt, Instr.sureAddr, Sem.run_bind, Sem.run_pure, Result.andThen_ok]
  rw [show aggEn p = .agg (enC p).toArray from rfl, hr]
  exact h _ (setRow_heap w g cs _ 47 _ hg) (mv_setRow w g _)
/-- A point stored cell by cell. -/
def set4 (w : World) (g off : Nat) (x : En) : World := (((w.setCell ⟨g, off, none⟩ (.int .u32 (x.1 : Nat))).setCell ⟨g, off + 1, none⟩ (.int .i64 x.2.1)).setCell ⟨g, off + 2, none⟩ (.int .u64 (x.2.2.1 : Nat))).setCell ⟨g, off + 3, none⟩ (.int .u64 (x.2.2.2 : Nat))
theorem set4_heap {w : World} {g off : Nat} {cs : Array Value} {t : TypeId} (x : En) (h : w.heap[g]? = some (.cells cs t (0, 0))) (hs : off + 4 ≤ cs.size) : (set4 w g off x).heap[g]? = some (.cells (spl cs off (enC x)) t (0, 0)) := by
  unfold set4
  rw [set_blk (set_blk (set_blk (set_blk h off _) (off + 1) _) (off + 2) _) (off + 3) _]
  congr 2
  apply Array.ext'
  unfold spl splice
  simp only [Array.toList_setIfInBounds]
  apply List.ext_getElem?
  intro i
  have hl : cs.toList.length = cs.size := Array.length_toList
  simp only [List.getElem?_set, List.length_set]
  by_cases h0 : i < off
  · rw [if_neg (by omega), if_neg (by omega), if_neg (by omega), if_neg (by omega), List.getElem?_append_left (by rw [List.length_take]; omega), List.getElem?_take, if_pos h0]
  · rw [List.getElem?_append_right (by rw [List.length_take]; omega), List.length_take, hl, Nat.min_eq_left (by omega)]
    by_cases h4 : i < off + 4
    · rw [List.getElem?_append_left (by rw [enC_len]; omega)]
      have : i = off ∨ i = off + 1 ∨ i = off + 2 ∨ i = off + 3 := by omega
      rcases this with rfl | rfl | rfl | rfl
      · rw [if_neg (by omega), if_neg (by omega), if_neg (by omega), if_pos rfl, if_pos (by omega), Nat.sub_self]; rfl
      · rw [if_neg (by omega), if_neg (by omega), if_pos rfl, if_pos (by omega), Nat.add_sub_cancel_left]; rfl
      · rw [if_neg (by omega), if_pos rfl, if_pos (by omega), Nat.add_sub_cancel_left]; rfl
      · rw [if_pos rfl, if_pos (by omega), Nat.add_sub_cancel_left]; rfl
    · rw [if_neg (by omega), if_neg (by omega), if_neg (by omega), if_neg (by omega), List.getElem?_append_right (by rw [enC_len]; omega), List.getElem?_drop, enC_len]
      congr 1
      omega
theorem set4_mv {w w0 : World} {S : Nat → Prop} {g off : Nat} (x : En) (h : Mv S w0 w) (hg : g < w0.heap.size → S g) : Mv S w0 (set4 w g off x) :=
  (((h.setCell (p := ⟨g, off, none⟩) hg _).setCell (p := ⟨g, off + 1, none⟩) hg _).setCell (p := ⟨g, off + 2, none⟩) hg _).setCell (p := ⟨g, off + 3, none⟩) hg _
/-- What is handed back: points, how many bytes they took, what was wrong. -/
def EnsRes (w : World) (r : List En × Nat × Nat) (e : Ending) (w' : World) : Prop := ∃ A' c', e = .returned (.tuple #[.slice A' r.1.length c', .int .i64 (r.2.1 : Nat), .int .i64 (r.2.2 : Nat)]) ∧ Rd w' A' (ecells r.1) ∧ Below w.heap.size w w' ∧ ∀ g, A'.map (·.block) = some g → w.heap.size ≤ g
section
set_option maxHeartbeats 3200000
set_option maxRecDepth 100000
theorem tp_any (A : Option Addr) (c len n : Nat) (xs : Bs) (w : World) (hle : xs.length = len) (hx : Rd w A (xs.map Bv)) (hc : len ≤ c) (hl : len ≤ 1000000) (hn : n ≤ 1000) :
    Calls Tryd.prog 86 #[.slice A len c, .int .i64 (n : Nat)] w (EnsRes w (ensAt n en0 xs)) := by
  subst hle
  obtain ⟨R, hR⟩ : ∃ R, R = ensAt n en0 xs := ⟨_, rfl⟩
  rw [← hR]
  rw [← goE_start] at hR
  obtain ⟨i0, hi, hz0, hz1, hz2⟩ := info_parts infoEn
  have HR := Lib.hid hR; clear hR
  have hbb := ((RowKit.Below.refl w.heap.size w).alloc (Nat.le_refl _) (.cells #[.slice A xs.length c] 30)).alloc (by simp) (.cells #[.int .i64 0] 3)
  have HBB := Lib.hid hbb; clear hbb
  have HG2 := Lib.hid (show ((w.alloc (.cells #[.slice A xs.length c] 30)).alloc (.cells #[.int .i64 0] 3)).heap[w.heap.size]? = some (.cells #[.slice A xs.length c] 30 (0, 0)) from (Below.heap_alloc _ _ _ (by simp)).trans (heap_alloc_new w _))
  have HG7 := Lib.hid (show ((w.alloc (.cells #[.slice A xs.length c] 30)).alloc (.cells #[.int .i64 0] 3)).heap[w.heap.size + 1]? = some (.cells #[.int .i64 0] 3 (0, 0)) from heap_alloc_new2 w _ _)
  go_enter Tryd.func86, Tryd.ntmps86
  go_wp2_with (first
    | (at_make; go_must (refine wpList_make_full _ rfl _ _ 25 rfl w.heap.size 47 i0 (.agg #[.int .u32 0, .int .i64 0, .int .u64 0, .int .u64 0]) 4 Tryd.underlying25 hi hz0 hz1 _ _ _ _ n rfl rfl rfl rfl (by rw [hz2]; omega) (by unfold maxLen; omega) HBB.out.size ?_; intro w2 hown hgr))
    | fail)
  rw [zerosE] at hown
  have hcg := made_fullE hown (by rw [ecells_len, List.length_replicate])
  simp only [World.size_alloc] at hcg
  have hb2 := HBB.out.grown hgr HBB.out.size (fun k e => by cases e)
  have hg2 := (hgr.block _ (blk_lt HG2.out) (by simp)).trans HG2.out
  have hg7 := (hgr.block _ (blk_lt HG7.out) (by simp)).trans HG7.out
  have hs2 : w.heap.size + 1 + 1 < w2.heap.size := blk_lt hcg
  obtain ⟨w3, hw3⟩ : ∃ w3, w3 = w2.alloc (.cells #[.int .u32 0, .int .i64 0, .int .u64 0, .int .u64 0] 47) := ⟨_, rfl⟩
  obtain ⟨gb, hgb⟩ : ∃ g, g = w.heap.size := ⟨_, rfl⟩
  obtain ⟨ga, hga⟩ : ∃ g, g = w.heap.size + 1 := ⟨_, rfl⟩
  obtain ⟨gl, hgl⟩ : ∃ g, g = w.heap.size + 1 + 1 := ⟨_, rfl⟩
  obtain ⟨gp, hgp⟩ : ∃ g, g = w2.heap.size := ⟨_, rfl⟩
  have hb3 : RowKit.Below w.heap.size w w3 := by rw [hw3]; exact hb2.alloc hb2.size _
  have hL3 : w3.heap[gl]? = some (.cells (ecells ([] ++ List.replicate (n - 0) en0)).toArray 47 (0, 0)) := by
    rw [hw3, hgl]; exact (Below.heap_alloc _ _ _ (blk_lt hcg)).trans hcg
  have hP3 : EBox w3 gp en0 := by rw [hw3, hgp]; exact heap_alloc_new w2 _
  have hrg3 : Rdg w gb ga A c xs 0 w3 := ⟨by rw [hw3, hgb]; exact (Below.heap_alloc _ _ _ (blk_lt hg2)).trans hg2, by rw [hw3, hga]; exact (Below.heap_alloc _ _ _ (blk_lt hg7)).trans hg7, hx, hb3, by omega, Nat.zero_le _, hc, hl⟩
  have hnlp : gl ≠ gp := by omega
  have hwl : w.heap.size ≤ gl := by omega
  have hwp : w.heap.size ≤ gp := by omega
  have HL3 := Lib.hid hL3; have HP3 := Lib.hid hP3; have HRG3 := Lib.hid hrg3; have HW3 := Lib.hid hw3; have HGB := Lib.hid hgb; have HGA := Lib.hid hga; have HGL := Lib.hid hgl; have HGP := Lib.hid hgp
  have HNE := Lib.hid (show ga ≠ gl ∧ ga ≠ gp ∧ w.heap.size ≤ ga from ⟨by omega, by omega, by omega⟩)
  clear hcg hown hgr hb2 hg2 hg7 hs2 hb3 hL3 hP3 hrg3 hw3 hgb hga hgl hgp HBB HG2 HG7 hi hz0 hz1 hz2
  go_wp2
  rw [← HGP.out, ← HW3.out, ← HGL.out, ← HGA.out, ← HGB.out]
  have hn0 : (0 : Int) ≤ (n : Int) := by omega
  go_loopw [20] (fun s20 wr => ∃ (k at_ : Nat) (p : En) (acc : List En), s20 = .int .i64 k ∧ k ≤ n ∧ acc.length = k ∧ Aside (EnOk p) ∧ Aside (wr.heap[gl]? = some (.cells (ecells (acc ++ List.replicate (n - k) en0)).toArray 47 (0, 0))) ∧ Aside (EBox wr gp p) ∧ Aside (Rdg w gb ga A c xs at_ wr) ∧ Aside (R = goE acc (n - k) p at_ (xs.drop at_))) (fun s20 _ => n - (intOf s20).toNat)
  case atStart => exact ⟨0, 0, en0, [], rfl, by omega, rfl, en0_ok, HL3.out, HP3.out, HRG3.out, HR.out⟩
  case round =>
    obtain ⟨k, at_, p, acc, rfl, hk, hac, PO, HL, HP, HRD, E⟩ := hrel
    have k0 : (0 : Int) ≤ (k : Int) := by omega
    by_cases hlt : k < n
    · have k1 : (k : Int) < (n : Int) := by omega
      obtain ⟨m, hm⟩ : ∃ m, n - k = m + 1 := ⟨n - k - 1, by omega⟩
      have hm2 : m = n - (k + 1) := by omega
      have hE := E.out
      rw [hm, goE_step, List.drop_drop] at hE
      have hL := HL.out
      rw [hm] at hL
      have ht := te_any w gb ga A c at_ xs p wr HRD.out PO.out
      have hfo := @enAt_form p (xs.drop at_)
      generalize enAt p (xs.drop at_) = X at ht hE hfo
      obtain ⟨x, q, er⟩ := X
      simp only at ht hE hfo
      obtain ⟨P0, P1, P2, P3⟩ := HP.out.cells
      have hgl : ga ≠ gl := HNE.out.1
      have n1 : gl < wr.heap.size := blk_lt hL
      have n2 : gp < wr.heap.size := blk_lt HP.out
      obtain ⟨p1, p2, p3, p4⟩ := p
      unfold aggEn boxEn at ht
      simp only at P0 P1 P2 P3 ht
      have HT := Lib.hid ht; have HLW := Lib.hid hL; have HFO := Lib.hid hfo; have HM2 := Lib.hid hm2; have HE := Lib.hid hE
      clear ht hL hm hE E HL hm2 hfo
      go_wp2_with fail
      refine HT.out.mono ?_
      rintro e w4 ⟨rfl, hrd, hmv⟩
      have hL4 := keep_mv hmv HLW.out (Ne.symm HNE.out.1)
      have hP4 : EBox w4 gp (p1, p2, p3, p4) := keep_mv hmv HP.out (Ne.symm HNE.out.2.1)
      clear P0 P1 P2 P3
      by_cases he : er = 0
      · subst he
        have hE2 := HE.out
        rw [if_neg (by simp)] at hE2
        have hrd4 := hrd rfl
        obtain ⟨-, -, hgood⟩ := HFO.out rfl
        have hb4 := hrd4.be
        clear hrd HE HFO
        obtain ⟨x1, x2, x3, x4⟩ := x
        obtain ⟨w5, hw5⟩ : ∃ w5, w5 = w4.alloc (.cells #[.int .u32 (x1 : Nat), .int .i64 x2, .int .u64 (x3 : Nat), .int .u64 (x4 : Nat)] 47) := ⟨_, rfl⟩
        obtain ⟨gx, hgx⟩ : ∃ g, g = w4.heap.size := ⟨_, rfl⟩
        have hbe : RowKit.Below w4.heap.size w4 w5 := by rw [hw5]; exact (RowKit.Below.refl _ _).alloc (Nat.le_refl _) _
        have hX5 : EBox w5 gx (x1, x2, x3, x4) := by rw [hw5, hgx]; exact heap_alloc_new w4 _
        have hL5 := (hbe.block _ (blk_lt hL4)).trans hL4
        have hP5 : EBox w5 gp (p1, p2, p3, p4) := (hbe.block _ (blk_lt hP4)).trans hP4
        have hx1 : gx ≠ gl := by have := blk_lt hL4; omega
        have hx2 : gx ≠ gp := by have := blk_lt hP4; omega
        have HN := Lib.hid (show gx ≠ gl ∧ gx ≠ gp ∧ gb ≠ gl ∧ gb ≠ gp from ⟨hx1, hx2, ne_blk hrd4.bx hL4 (by decide), ne_blk hrd4.bx hP4 (by decide)⟩)
        have HLs := Lib.hid hL5; have HPs := Lib.hid hP5; have HXs := Lib.hid hX5; have HRs := Lib.hid (hrd4.moved hbe)
        have HG := Lib.hid hgood; have HE2 := Lib.hid hE2; have HW5 := Lib.hid hw5; have HGX := Lib.hid hgx
        have hspl := spl_en acc (x1, x2, x3, x4) m k hac
        have HSPL := Lib.hid hspl
        have hsz : k * 4 + 4 ≤ (ecells (acc ++ List.replicate (m + 1) en0)).toArray.size := by simp only [List.size_toArray, ecells_len, List.length_append, List.length_replicate, hac]; omega
        have HSZ := Lib.hid hsz
        clear hrd4 hbe hX5 hL5 hP5 hx1 hx2 hgood hE2 hw5 hgx hspl hsz hL4 hP4 hmv hb4
        have hcl : ∀ i, i < 4 → w5.drew.cell? ⟨gl, k * 4 + i, none⟩ = (enC en0)[i]? ∧ w5.drew.frozen? ⟨gl, k * 4 + i, none⟩ = false := fun i hi => by
          have hlk : k < (acc ++ List.replicate (m + 1) en0).length := by rw [List.length_append, List.length_replicate]; omega
          refine ⟨(cell_blk (w := w5.drew) HLs.out (k * 4 + i)).trans ?_, free_blk (w := w5.drew) HLs.out _⟩
          rw [List.getElem?_toArray]
          refine (flat_at (f := enC) (m := 4) enC_len _ k hlk i hi).trans ?_
          rw [List.getElem_append_right (by omega), List.getElem_replicate]
        have l0 := (hcl 0 (by omega)).1; have l1 := (hcl 1 (by omega)).1; have l2 := (hcl 2 (by omega)).1; have l3 := (hcl 3 (by omega)).1
        have lf0 := (hcl 0 (by omega)).2; have lf1 := (hcl 1 (by omega)).2; have lf2 := (hcl 2 (by omega)).2; have lf3 := (hcl 3 (by omega)).2
        simp only [enC, en0, Nat.add_zero, List.getElem?_cons_zero, List.getElem?_cons_succ] at l0 l1 l2 l3 lf0
        have pc : ∀ i, w5.drew.cell? ⟨gp, i, none⟩ = (boxEn (p1, p2, p3, p4))[i]? := fun i => cell_blk (w := w5.drew) HPs.out i
        have xc : ∀ i, w5.drew.cell? ⟨gx, i, none⟩ = (boxEn (x1, x2, x3, x4))[i]? := fun i => cell_blk (w := w5.drew) HXs.out i
        have P0 := pc 0; have P1 := pc 1; have P2 := pc 2; have P3 := pc 3
        have X0 := xc 0; have X1 := xc 1; have X2 := xc 2; have X3 := xc 3
        have pf0 : w5.drew.frozen? ⟨gp, 0, none⟩ = false := free_blk (w := w5.drew) HPs.out 0
        have pf1 : w5.drew.frozen? ⟨gp, 1, none⟩ = false := free_blk (w := w5.drew) HPs.out 1
        have pf2 : w5.drew.frozen? ⟨gp, 2, none⟩ = false := free_blk (w := w5.drew) HPs.out 2
        have pf3 : w5.drew.frozen? ⟨gp, 3, none⟩ = false := free_blk (w := w5.drew) HPs.out 3
        simp only [boxEn, List.getElem?_toArray, List.getElem?_cons_zero, List.getElem?_cons_succ] at P0 P1 P2 P3 X0 X1 X2 X3
        have l0' : w5.cell? ⟨gl, k * 4, none⟩ = some (.int .u32 ((0 : Nat) : Int)) := l0
        have l1' : w5.cell? ⟨gl, k * 4 + 1, none⟩ = some (.int .i64 0) := l1
        have l2' : w5.cell? ⟨gl, k * 4 + 2, none⟩ = some (.int .u64 ((0 : Nat) : Int)) := l2
        have l3' : w5.cell? ⟨gl, k * 4 + 3, none⟩ = some (.int .u64 ((0 : Nat) : Int)) := l3
        have lf0' : w5.frozen? ⟨gl, k * 4, none⟩ = false := lf0
        have pf0' : w5.frozen? ⟨gp, 0, none⟩ = false := pf0
        have lf1' : w5.frozen? ⟨gl, k * 4 + 1, none⟩ = false := lf1
        have pf1' : w5.frozen? ⟨gp, 1, none⟩ = false := pf1
        have lf2' : w5.frozen? ⟨gl, k * 4 + 2, none⟩ = false := lf2
        have pf2' : w5.frozen? ⟨gp, 2, none⟩ = false := pf2
        have lf3' : w5.frozen? ⟨gl, k * 4 + 3, none⟩ = false := lf3
        have pf3' : w5.frozen? ⟨gp, 3, none⟩ = false := pf3
        have P0' : w5.cell? ⟨gp, 0, none⟩ = some (.int .u32 (p1 : Nat)) := P0
        have P1' : w5.cell? ⟨gp, 1, none⟩ = some (.int .i64 p2) := P1
        have P2' : w5.cell? ⟨gp, 2, none⟩ = some (.int .u64 (p3 : Nat)) := P2
        have P3' : w5.cell? ⟨gp, 3, none⟩ = some (.int .u64 (p4 : Nat)) := P3
        have X0' : w5.cell? ⟨gx, 0, none⟩ = some (.int .u32 (x1 : Nat)) := X0
        have X1' : w5.cell? ⟨gx, 1, none⟩ = some (.int .i64 x2) := X1
        have X2' : w5.cell? ⟨gx, 2, none⟩ = some (.int .u64 (x3 : Nat)) := X2
        have X3' : w5.cell? ⟨gx, 3, none⟩ = some (.int .u64 (x4 : Nat)) := X3
        have d1 := HN.out.1; have d2 := HN.out.2.1
        have d1' := Ne.symm d1; have d2' := Ne.symm d2; have hnlp' := Ne.symm hnlp
        have ma : Mv (fun i => i = gl) w5 (set4 w5 gl (k * 4) (x1, x2, x3, x4)) := set4_mv _ (Mv.refl _ _) (fun _ => rfl)
        have mb : Mv (fun i => i = gp) w5 (set4 w5 gp 0 (x1, x2, x3, x4)) := set4_mv _ (Mv.refl _ _) (fun _ => rfl)
        have ma2 : Mv (fun i => i = gp) (set4 w5 gl (k * 4) (x1, x2, x3, x4)) (set4 (set4 w5 gl (k * 4) (x1, x2, x3, x4)) gp 0 (x1, x2, x3, x4)) := set4_mv _ (Mv.refl _ _) (fun _ => rfl)
        have mb2 : Mv (fun i => i = gl) (set4 w5 gp 0 (x1, x2, x3, x4)) (set4 (set4 w5 gp 0 (x1, x2, x3, x4)) gl (k * 4) (x1, x2, x3, x4)) := set4_mv _ (Mv.refl _ _) (fun _ => rfl)
        have sa := set4_heap (x1, x2, x3, x4) HLs.out HSZ.out
        have sb : EBox (set4 w5 gp 0 (x1, x2, x3, x4)) gp (x1, x2, x3, x4) := set4_heap (x1, x2, x3, x4) HPs.out (by show 0 + 4 ≤ 4; decide)
        have sa2 : EBox (set4 (set4 w5 gl (k * 4) (x1, x2, x3, x4)) gp 0 (x1, x2, x3, x4)) gp (x1, x2, x3, x4) := set4_heap (x1, x2, x3, x4) (keep_mv ma HPs.out (Ne.symm hnlp)) (by show 0 + 4 ≤ 4; decide)
        have sb2 := set4_heap (x1, x2, x3, x4) (keep_mv mb HLs.out hnlp) HSZ.out
        rw [HSPL.out] at sa sb2
        have ta := (show (set4 (set4 w5 gl (k * 4) (x1, x2, x3, x4)) gp 0 (x1, x2, x3, x4)).drew.heap[gl]? = some (.cells (ecells ((acc ++ [(x1, x2, x3, x4)]) ++ List.replicate m en0)).toArray 47 (0, 0)) ∧ EBox (set4 (set4 w5 gl (k * 4) (x1, x2, x3, x4)) gp 0 (x1, x2, x3, x4)).drew gp (x1, x2, x3, x4) ∧ Rdg w gb ga A c xs (at_ + q) (set4 (set4 w5 gl (k * 4) (x1, x2, x3, x4)) gp 0 (x1, x2, x3, x4)).drew from
          ⟨drew_heap (keep_mv ma2 sa hnlp), drew_box sa2, ((HRs.out.mv ma HN.out.2.2.1 HNE.out.1 hwl).mv ma2 HN.out.2.2.2 HNE.out.2.1 hwp).drew⟩)
        have tb := (show (set4 (set4 w5 gp 0 (x1, x2, x3, x4)) gl (k * 4) (x1, x2, x3, x4)).drew.heap[gl]? = some (.cells (ecells ((acc ++ [(x1, x2, x3, x4)]) ++ List.replicate m en0)).toArray 47 (0, 0)) ∧ EBox (set4 (set4 w5 gp 0 (x1, x2, x3, x4)) gl (k * 4) (x1, x2, x3, x4)).drew gp (x1, x2, x3, x4) ∧ Rdg w gb ga A c xs (at_ + q) (set4 (set4 w5 gp 0 (x1, x2, x3, x4)) gl (k * 4) (x1, x2, x3, x4)).drew from
          ⟨drew_heap sb2, drew_box (keep_mv mb2 sb (Ne.symm hnlp)), ((HRs.out.mv mb HN.out.2.2.2 HNE.out.2.1 hwp).mv mb2 HN.out.2.2.1 HNE.out.1 hwl).drew⟩)
        simp only [set4, Nat.zero_add] at ta tb
        have TA := Lib.hid ta; have TB := Lib.hid tb
        clear hcl pc xc ma mb ma2 mb2 sa sb sa2 sb2 ta tb
        go_wp2_with fail
        rw [← HGX.out, ← HW5.out]
        go_region_law (fail)
        all_goals
          first
            | (with_reducible refine withE (fun W6 => W6.heap[gl]? = some (.cells (ecells ((acc ++ [(x1, x2, x3, x4)]) ++ List.replicate m en0)).toArray 47 (0, 0)) ∧ EBox W6 gp (x1, x2, x3, x4) ∧ Rdg w gb ga A c xs (at_ + q) W6) TA.out ?_)
            | (with_reducible refine withE (fun W6 => W6.heap[gl]? = some (.cells (ecells ((acc ++ [(x1, x2, x3, x4)]) ++ List.replicate m en0)).toArray 47 (0, 0)) ∧ EBox W6 gp (x1, x2, x3, x4) ∧ Rdg w gb ga A c xs (at_ + q) W6) TB.out ?_)
          rintro w6 ⟨hl6, hp6, hr6⟩
          rw [HM2.out] at hl6
          have HL6 := Lib.hid hl6; have HP6 := Lib.hid hp6; have HR6 := Lib.hid hr6
          have HE6 := Lib.hid (show R = goE (acc ++ [(x1, x2, x3, x4)]) (n - (k + 1)) (x1, x2, x3, x4) (at_ + q) (xs.drop (at_ + q)) by rw [← HM2.out]; exact HE2.out)
          clear hl6 hp6 hr6 TA TB l0 l1 l2 l3 lf0 lf1 lf2 lf3 l0' l1' l2' l3' lf0' lf1' lf2' lf3' P0 P1 P2 P3 P0' P1' P2' P3' X0 X1 X2 X3 X0' X1' X2' X3' pf0 pf1 pf2 pf3 pf0' pf1' pf2' pf3'
          go_wp2
          go_roundw
          case rel => exact ⟨k + 1, at_ + q, (x1, x2, x3, x4), acc ++ [(x1, x2, x3, x4)], by go_num, by omega, by rw [List.length_append, hac]; rfl, (show Aside _ from HG.out.1), (show Aside _ from HL6.out), (show Aside _ from HP6.out), (show Aside _ from HR6.out), (show Aside _ from HE6.out)⟩
          case measure => simp [intOf]; omega
      · have hE2 := HE.out
        rw [if_pos he] at hE2
        subst hE2
        have g0 : ((er : Int) != 0) = true := by rw [bne_iff_ne]; omega
        have hb4 : RowKit.Below w.heap.size w w4 := HRD.out.be.trans (hmv.belowB HRD.out.be.size (fun i hi e => by have := HNE.out.2.2; omega))
        have HB4 := Lib.hid hb4
        clear hrd hmv hL4 hP4 hb4 HE HFO
        go_wp2
        go_ret3
        exact ⟨none, 0, rfl, Rd.nil _ _, HB4.out.alloc HB4.out.size _, fun g hg => by cases hg⟩
    · obtain rfl : k = n := by omega
      have hE := E.out
      rw [Nat.sub_self, goE_zero] at hE
      have hL := HL.out
      rw [Nat.sub_self, List.replicate_zero, List.append_nil] at hL
      have hrd9 : Rd wr (some ⟨gl, 0, none⟩) (ecells acc) := fun i u hu => ⟨gl, 0, rfl, by rw [Nat.zero_add, cell_blk hL, List.getElem?_toArray]; exact hu⟩
      have a0 := cell_blk HRD.out.at_ 0
      simp only [List.getElem?_toArray, List.getElem?_cons_zero] at a0
      subst hE
      subst hac
      have HR9 := Lib.hid hrd9; have HBE := Lib.hid HRD.out.be
      clear hrd9 hL HL E
      go_wp2_with fail
      go_quiet (fail)
      go_wp2
      go_ret3
      exact ⟨some ⟨gl, 0, none⟩, _, rfl, (HR9.out).drewN _, below_drewN HBE.out _, fun g hg => (by simpa using hg : gl = g) ▸ hwl⟩
end
end Go.Proofs.YtgogpngobdafaaaDoor
