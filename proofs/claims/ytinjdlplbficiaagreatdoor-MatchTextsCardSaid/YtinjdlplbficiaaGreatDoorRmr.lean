
/-
  The plain answers: what is wrong with matchers, and what passes.
-/
import Derived.Test.YtinjdlplbficiaaGreatDoorMm
import Derived.Test.YtinjdlplbficiaaGreatDoorMs
import Derived.Test.YtinjdlplbficiaaGreatDoorRst
import Derived.Test.YtinjdlplbficiaaGreatDoorGt
import Derived.Test.YtinjdlplbficiaaGreatDoorPzq
namespace Go.Proofs.YtinjdlplbficiaaGreatDoor
set_option linter.unusedVariables false
set_option linter.unusedSimpArgs false
open Go.RowKit
section
set_option maxHeartbeats 3200000
set_option maxRecDepth 100000
theorem rxcheck_any (s : ByteArray) (w : World) : Calls Tryz.prog 58 #[.string s] w fun e w' => e = .returned (.int .i64 (formM s : Nat)) ∧ RowKit.Below w.heap.size w w' := by
  have hp := rparse_any s w
  unfold formM
  generalize rxP (bl s) = R at hp ⊢
  have HP := Lib.hid hp; clear hp
  go_enter Tryz.func58, Tryz.ntmps58
  go_wp2_with fail
  refine HP.out.mono ?_
  intro e w1 ho
  cases R with
  | error f =>
    obtain ⟨rfl, hb⟩ := ho
    have HB := Lib.hid hb; clear hb
    go_wp2
    go_ret
    exact ⟨rfl, HB.out⟩
  | ok t =>
    obtain ⟨p, rfl, -, -, hb⟩ := ho
    have HB := Lib.hid hb; clear hb
    go_wp2
    go_ret
    exact ⟨rfl, HB.out⟩
theorem rxfull_any (p s : ByteArray) (w : World) (hs : s.size ≤ 900) : Calls Tryz.prog 59 #[.string p, .string s] w fun e w' => e = .returned (.bool (reM p s)) ∧ RowKit.Below w.heap.size w w' := by
  have hp := rparse_any p w
  unfold reM
  generalize hR : rxP (bl p) = R at hp ⊢
  have HP := Lib.hid hp; clear hp
  go_enter Tryz.func59, Tryz.ntmps59
  go_wp2_with fail
  refine HP.out.mono ?_
  intro e w1 ho
  cases R with
  | error f =>
    obtain ⟨rfl, hb⟩ := ho
    have hf := rxM_err hR
    have hf2 : ¬ ((f.2 : Nat) : Int) = 0 := by omega
    have HB := Lib.hid hb; clear hb
    go_wp2
    go_ret
    exact ⟨rfl, HB.out⟩
  | ok t =>
    obtain ⟨b, rfl, -, hi, hb⟩ := ho
    have hm := rmatch_any b t s w1 hi hs
    obtain ⟨M, hM⟩ : ∃ M, matchP (compP t []).1 (compP t []).2 (runesB (bl s)) = M := ⟨_, rfl⟩
    rw [hM] at hm
    have HM := Lib.hid hm; have HMM := Lib.hid hM
    clear hM
    have HB := Lib.hid hb; clear hb hm hi hR
    go_wp2_with fail
    refine HM.out.mono ?_
    rintro e w2 ⟨rfl, hb2⟩
    have HB2 := Lib.hid (HB.out.trans (hb2.mono HB.out.size)); clear hb2
    go_wp2
    go_ret
    exact ⟨by simp only [HMM.out]; rfl, HB2.out⟩
theorem rmcheck_any (m : Mt') (w : World) (h1 : m.2.1.size ≤ 1000000) (h2 : m.2.2.size ≤ 1000000) : Calls Tryz.prog 35 #[aggMt m] w fun e w' => e = .returned (.int .i64 (checkM m : Nat)) ∧ RowKit.Below w.heap.size w w' := by
  obtain ⟨k, n, v⟩ := m
  obtain ⟨C, hC⟩ : ∃ C, checkM (k, n, v) = C := ⟨_, rfl⟩
  rw [hC]
  unfold checkM at hC
  simp only at hC h1 h2
  unfold aggMt
  simp only
  obtain ⟨W, hW⟩ : ∃ W, W = w.alloc (.cells #[.int .i64 k, .string n, .string v] 37) := ⟨_, rfl⟩
  have hbw : RowKit.Below w.heap.size w W := by rw [hW]; exact (RowKit.Below.refl _ w).alloc (Nat.le_refl _) _
  have hg : W.heap[w.heap.size]? = some (.cells #[.int .i64 k, .string n, .string v] 37 (0, 0)) := by rw [hW]; exact heap_alloc_new w _
  have c0 := cell_blk hg 0; have c1 := cell_blk hg 1; have c2 := cell_blk hg 2
  simp only [List.getElem?_toArray, List.getElem?_cons_zero, List.getElem?_cons_succ] at c0 c1 c2
  have HN := Lib.hid (rnamed_any n W h1)
  have HV := Lib.hid (rvalued_any v W h2)
  have HBW := Lib.hid hbw; have HW := Lib.hid hW
  clear hbw hW hg
  by_cases hk1 : k < 1
  · rw [if_pos (.inl hk1)] at hC; subst hC
    go_enter Tryz.func35, Tryz.ntmps35
    go_wp2
    go_ret
    rw [← HW.out]
    exact ⟨rfl, HBW.out⟩
  by_cases hk2 : 4 < k
  · rw [if_pos (.inr hk2)] at hC; subst hC
    go_enter Tryz.func35, Tryz.ntmps35
    go_wp2
    go_ret
    rw [← HW.out]
    exact ⟨rfl, HBW.out⟩
  rw [if_neg (by omega)] at hC
  generalize namedP (bl n) = N at HN hC
  generalize valuedP (bl v) = V at HV hC
  have HC := Lib.hid hC; clear hC
  go_enter Tryz.func35, Tryz.ntmps35
  go_wp2_with fail
  rw [← HW.out]
  refine HN.out.mono ?_
  rintro e w1 ⟨rfl, rfl⟩
  cases N with
  | false =>
    have hc := HC.out; rw [if_pos rfl] at hc; subst hc
    go_wp2
    go_ret
    exact ⟨rfl, HBW.out⟩
  | true =>
    go_wp2_with fail
    refine HV.out.mono ?_
    rintro e w2 ⟨rfl, q, rfl⟩
    have hbq : RowKit.Below w.heap.size w (W.drewN q) := below_drewN HBW.out q
    have HBQ := Lib.hid hbq; clear hbq
    have d0 : (W.drewN q).cell? ⟨w.heap.size, 0, none⟩ = some (.int .i64 k) := c0
    have d2 : (W.drewN q).cell? ⟨w.heap.size, 2, none⟩ = some (.string v) := c2
    cases V with
    | false =>
      have hc := HC.out; rw [if_neg (by simp), if_pos rfl] at hc; subst hc
      go_wp2
      go_ret
      exact ⟨rfl, HBQ.out⟩
    | true =>
      have hc := HC.out; rw [if_neg (by simp), if_neg (by simp)] at hc
      have HF := Lib.hid (rxcheck_any v (W.drewN q))
      have hk4 : k = 1 ∨ k = 2 ∨ k = 3 ∨ k = 4 := by omega
      clear hk1 hk2 HC
      rcases hk4 with rfl | rfl | rfl | rfl
      · rw [if_pos (by decide)] at hc; subst hc
        go_wp2
        go_ret
        exact ⟨rfl, HBQ.out⟩
      · rw [if_pos (by decide)] at hc; subst hc
        go_wp2
        go_ret
        exact ⟨rfl, HBQ.out⟩
      · rw [if_neg (by decide)] at hc
        rw [hc] at HF
        go_wp2_with fail
        refine HF.out.mono ?_
        rintro e w3 ⟨rfl, hb⟩
        have HB := Lib.hid (HBQ.out.trans (hb.mono HBQ.out.size)); clear hb
        go_wp2
        go_ret
        exact ⟨rfl, HB.out⟩
      · rw [if_neg (by decide)] at hc
        rw [hc] at HF
        go_wp2_with fail
        refine HF.out.mono ?_
        rintro e w3 ⟨rfl, hb⟩
        have HB := Lib.hid (HBQ.out.trans (hb.mono HBQ.out.size)); clear hb
        go_wp2
        go_ret
        exact ⟨rfl, HB.out⟩
theorem rmone_any (m : Mt') (s : ByteArray) (w : World) (h1 : m.2.1.size ≤ 1000000) (h2 : m.2.2.size ≤ 1000000) (hs : s.size ≤ 900) : Calls Tryz.prog 36 #[aggMt m, .string s] w fun e w' => e = .returned (.bool (oneM m s)) ∧ RowKit.Below w.heap.size w w' := by
  obtain ⟨k, n, v⟩ := m
  simp only at h1 h2
  obtain ⟨O, hO⟩ : ∃ O, oneM (k, n, v) s = O := ⟨_, rfl⟩
  rw [hO]
  unfold oneM at hO
  have hkind := check_kind (m := (k, n, v))
  simp only at hkind
  obtain ⟨W, hW⟩ : ∃ W, W = w.alloc (.cells #[.int .i64 k, .string n, .string v] 37) := ⟨_, rfl⟩
  have hbw : RowKit.Below w.heap.size w W := by rw [hW]; exact (RowKit.Below.refl _ w).alloc (Nat.le_refl _) _
  have hg : W.heap[w.heap.size]? = some (.cells #[.int .i64 k, .string n, .string v] 37 (0, 0)) := by rw [hW]; exact heap_alloc_new w _
  have hck := rmcheck_any (k, n, v) W h1 h2
  generalize checkM (k, n, v) = C at hck hO hkind
  unfold aggMt at hck ⊢
  simp only at hck ⊢
  have HCK := Lib.hid hck; have HBW := Lib.hid hbw; have HW := Lib.hid hW; have HG := Lib.hid hg
  have c0 := cell_blk hg 0; have c1 := cell_blk hg 1; have c2 := cell_blk hg 2
  simp only [List.getElem?_toArray, List.getElem?_cons_zero, List.getElem?_cons_succ] at c0 c1 c2
  clear hck hbw hW hg
  by_cases hc : C = 0
  · subst hc
    rw [decide_eq_true rfl, Bool.true_and] at hO
    unfold passM at hO
    simp only at hO
    have hks := hkind rfl
    clear hkind
    go_enter Tryz.func36, Tryz.ntmps36
    go_wp2_with fail
    rw [← HW.out]
    refine HCK.out.mono ?_
    rintro e w1 ⟨rfl, hb⟩
    have hg1 := (hb.block _ (blk_lt HG.out)).trans HG.out
    clear c0 c1 c2
    have c0 := cell_blk hg1 0; have c2 := cell_blk hg1 2
    simp only [List.getElem?_toArray, List.getElem?_cons_zero, List.getElem?_cons_succ] at c0 c2
    have HB := Lib.hid (HBW.out.trans (hb.mono HBW.out.size)); clear hb hg1
    have HF := Lib.hid (rxfull_any v s w1 hs)
    rcases hks with rfl | rfl | rfl | rfl
    · rw [if_pos rfl] at hO
      by_cases he : s = v
      · subst he
        rw [decide_eq_true rfl] at hO; subst hO
        go_wp2; go_ret
        exact ⟨by simp, HB.out⟩
      · rw [decide_eq_false he] at hO; subst hO
        have hq := text_ne he
        clear he
        go_wp2; go_ret
        exact ⟨rfl, HB.out⟩
    · rw [if_neg (by decide), if_pos rfl] at hO
      by_cases he : s = v
      · subst he
        rw [decide_eq_true rfl] at hO; subst hO
        go_wp2; go_ret
        exact ⟨by simp, HB.out⟩
      · rw [decide_eq_false he] at hO; subst hO
        have hq := text_ne he
        clear he
        go_wp2; go_ret
        exact ⟨by simp, HB.out⟩
    · rw [if_neg (by decide), if_neg (by decide), if_pos rfl] at hO
      rw [hO] at HF
      go_wp2_with fail
      refine HF.out.mono ?_
      rintro e w2 ⟨rfl, hb2⟩
      have HB2 := Lib.hid (HB.out.trans (hb2.mono HB.out.size)); clear hb2
      go_wp2; go_ret
      exact ⟨rfl, HB2.out⟩
    · rw [if_neg (by decide), if_neg (by decide), if_neg (by decide), if_pos rfl] at hO
      generalize reM v s = M at HF hO
      subst hO
      go_wp2_with fail
      refine HF.out.mono ?_
      rintro e w2 ⟨rfl, hb2⟩
      have HB2 := Lib.hid (HB.out.trans (hb2.mono HB.out.size)); clear hb2
      go_wp2; go_ret
      exact ⟨rfl, HB2.out⟩
  · rw [decide_eq_false hc, Bool.false_and] at hO
    subst hO
    have hc2 : ¬ ((C : Nat) : Int) = 0 := by omega
    have hc3 : (((C : Nat) : Int) != 0) = true := by rw [bne_iff_ne]; exact hc2
    clear hkind
    go_enter Tryz.func36, Tryz.ntmps36
    go_wp2_with fail
    rw [← HW.out]
    refine HCK.out.mono ?_
    rintro e w1 ⟨rfl, hb⟩
    have HB := Lib.hid (HBW.out.trans (hb.mono HBW.out.size)); clear hb
    go_wp2; go_ret
    exact ⟨rfl, HB.out⟩
theorem checksM_at {l : List Mt'} {k : Nat} (h : k < l.length) (h0 : ∀ m ∈ l.take k, checkM m = 0) (he : checkM l[k] ≠ 0) : checksM l = checkM l[k] := by
  induction l generalizing k with
  | nil => cases h
  | cons m r ih =>
    cases k with
    | zero =>
      unfold checksM
      exact if_pos he
    | succ k =>
      have hm := h0 m (by simp)
      unfold checksM
      rw [if_neg (by simp [hm])]
      exact ih (by simpa using h) (fun x hx => h0 x (by simp [hx])) he
theorem bareM_step {l : List Mt'} {k : Nat} (h : k < l.length) : bareM (l.take (k + 1)) = (bareM (l.take k) && passM l[k] noneB) := by
  unfold bareM
  rw [List.take_succ_eq_append_getElem h, List.all_append]; simp
theorem rmright_any (A : Option Addr) (ca : Nat) (l : List Mt') (w : World) (hx : Rd w A (mcells l)) (hl : l.length ≤ 100000) (hv : ∀ m ∈ l, m.2.1.size ≤ 1000000 ∧ m.2.2.size ≤ 1000000) :
    Calls Tryz.prog 16 #[.slice A l.length ca] w fun e w' => e = .returned (.int .i64 (rightM l : Nat)) ∧ RowKit.Below w.heap.size w w' := by
  obtain ⟨C, hC⟩ : ∃ C, rightM l = C := ⟨_, rfl⟩
  rw [hC]
  unfold rightM at hC
  by_cases h16 : 16 < l.length
  · rw [if_pos h16] at hC
    subst hC
    have g16 : (16 : Int) < (l.length : Int) := by omega
    clear hx hv
    go_enter Tryz.func16, Tryz.ntmps16
    go_wp2
    go_ret
    exact ⟨rfl, RowKit.Below.refl _ _⟩
  · rw [if_neg h16] at hC
    have g16 : ¬ (16 : Int) < (l.length : Int) := by omega
    have HX := Lib.hid hx; have HV := Lib.hid hv; have HC := Lib.hid hC
    clear hx hv hC
    go_enter Tryz.func16, Tryz.ntmps16
    go_wp2
    go_loopw [12, 3] (fun s12 s3 wr => ∃ k : Nat, s12 = .int .i64 k ∧ k ≤ l.length ∧ s3 = .bool (!bareM (l.take k)) ∧ Aside (RowKit.Below w.heap.size w wr) ∧ Aside (∀ m ∈ l.take k, checkM m = 0)) (fun s12 _ _ => l.length - (intOf s12).toNat)
    case atStart => exact ⟨0, rfl, by omega, rfl, RowKit.Below.refl _ _, fun m hm => (by simp at hm)⟩
    case round =>
      obtain ⟨k, rfl, hk, rfl, BW, E0⟩ := hrel
      have k0 : (0 : Int) ≤ (k : Int) := by omega
      by_cases hlt : k < l.length
      · have k1 : (k : Int) < (l.length : Int) := by omega
        obtain ⟨b, off, rfl, c0, c1, c2⟩ := mt_at (HX.out.below BW.out) hlt
        have hbs := bareM_step hlt
        obtain ⟨hv1, hv2⟩ := HV.out l[k] (List.getElem_mem hlt)
        have hchk := checksM_at hlt E0.out
        have htk : l.take (k + 1) = l.take k ++ [l[k]] := List.take_succ_eq_append_getElem hlt
        generalize l[k] = x at c0 c1 c2 hbs hv1 hv2 hchk htk
        obtain ⟨x1, x2, x3⟩ := x
        simp only at c0 c1 c2 hv1 hv2
        obtain ⟨W, hW⟩ : ∃ W, W = wr.alloc (.cells #[.int .i64 x1, .string x2, .string x3] 37) := ⟨_, rfl⟩
        have hba : RowKit.Below w.heap.size w W := by rw [hW]; exact BW.out.alloc BW.out.size _
        have hg : W.heap[wr.heap.size]? = some (.cells #[.int .i64 x1, .string x2, .string x3] 37 (0, 0)) := by rw [hW]; exact heap_alloc_new wr _
        have hr := rmcheck_any (x1, x2, x3) W hv1 hv2
        have hon := fun W' => rmone_any (x1, x2, x3) noneB W' hv1 hv2 (by decide)
        have HBA := Lib.hid hba
        by_cases hc : checkM (x1, x2, x3) = 0
        · have hE0 : ∀ m ∈ l.take (k + 1), checkM m = 0 := by
            rw [htk]; intro m hm
            rcases List.mem_append.1 hm with h | h
            · exact E0.out m h
            · rw [List.mem_singleton.1 h]; exact hc
          rw [hc] at hr
          have ho : oneM (x1, x2, x3) noneB = passM (x1, x2, x3) noneB := by unfold oneM; rw [hc]; simp
          simp only [ho] at hon
          generalize passM (x1, x2, x3) noneB = P at hon hbs
          generalize hB1 : bareM (l.take (k + 1)) = B1 at hbs
          generalize bareM (l.take k) = B0 at hbs ⊢
          unfold aggMt noneB at hon
          unfold aggMt at hr
          simp only at hr hon
          have HR := Lib.hid hr; have HON := Lib.hid hon; have HW := Lib.hid hW; have HG := Lib.hid hg; have HE0 := Lib.hid hE0; have HB1 := Lib.hid hB1; have HBS := Lib.hid hbs
          clear hr hon hW hg hE0 hB1 hbs hba hchk htk ho
          go_wp2_with fail
          rw [← HW.out]
          refine HR.out.mono ?_
          rintro e w2 ⟨rfl, hb2⟩
          have hg2 := (hb2.block _ (blk_lt HG.out)).trans HG.out
          have d0 := cell_blk hg2 0; have d1 := cell_blk hg2 1; have d2 := cell_blk hg2 2
          simp only [List.getElem?_toArray, List.getElem?_cons_zero, List.getElem?_cons_succ] at d0 d1 d2
          have HB2 := Lib.hid (HBA.out.trans (hb2.mono HBA.out.size)); clear hb2 hg2
          cases B0 with
          | false =>
            go_wp2_with fail
            go_roundw
            case rel => exact ⟨k + 1, by go_num, by omega, by rw [HB1.out, HBS.out]; rfl, (show Aside _ from HB2.out), (show Aside _ from HE0.out)⟩
            case measure => simp [intOf]; omega
          | true =>
            go_wp2_with fail
            refine (HON.out _).mono ?_
            rintro e w3 ⟨rfl, hb3⟩
            have HB3 := Lib.hid (HB2.out.trans (hb3.mono HB2.out.size)); clear hb3
            go_wp2_with fail
            go_roundw
            case rel => exact ⟨k + 1, by go_num, by omega, by rw [HB1.out, HBS.out]; simp, (show Aside _ from HB3.out), (show Aside _ from HE0.out)⟩
            case measure => simp [intOf]; omega
        · have hcc := hchk hc
          have hC2 := HC.out
          rw [if_pos (by rw [hcc]; exact hc), hcc] at hC2
          generalize checkM (x1, x2, x3) = Q at hc hC2 hr
          subst hC2
          have hc3 : (((Q : Nat) : Int) != 0) = true := by rw [bne_iff_ne]; omega
          unfold aggMt at hr
          simp only at hr
          have HR := Lib.hid hr; have HW := Lib.hid hW
          clear hcc hchk HC hon hbs htk hr hW hg
          go_wp2_with fail
          rw [← HW.out]
          refine HR.out.mono ?_
          rintro e w2 ⟨rfl, hb2⟩
          have HB2 := Lib.hid (HBA.out.trans (hb2.mono HBA.out.size)); clear hb2
          go_wp2
          go_ret
          exact ⟨rfl, HB2.out⟩
      · obtain rfl : k = l.length := by omega
        have h0 : checksM l = 0 := checksM_zero.2 fun m hm => E0.out m (by rw [List.take_length]; exact hm)
        have hC2 := HC.out
        rw [if_neg (by simp [h0])] at hC2
        rw [List.take_length]
        have HBW := Lib.hid BW.out; clear BW HC
        cases hb : bareM l with
        | true =>
          rw [hb, if_pos rfl] at hC2
          subst hC2
          go_wp2
          go_ret
          exact ⟨rfl, HBW.out⟩
        | false =>
          rw [hb, if_neg (by simp)] at hC2
          subst hC2
          go_wp2
          go_ret
          exact ⟨rfl, HBW.out⟩
end
end Go.Proofs.YtinjdlplbficiaaGreatDoor
