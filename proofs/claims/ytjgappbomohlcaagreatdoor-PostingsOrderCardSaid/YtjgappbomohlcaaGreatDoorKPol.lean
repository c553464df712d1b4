/-
  Lists of labels that came in; two indexes of the program beside each other; series in one order and in another.
-/
import Derived.BigQuiet
import Derived.Deep.CutBlock
import Derived.Test.YtjgappbomohlcaaGreatDoorK04
import Derived.Test.YtjgappbomohlcaaGreatDoorK03
import Derived.Test.YtjgappbomohlcaaGreatDoorK01
namespace Go.Proofs.YtjgappbomohlcaaGreatDoor
section
set_option linter.unusedVariables false
set_option linter.unusedSimpArgs false
open Go.ChangeShapes Go.WideShapes Go.ChangeAt Go.RowKit
structure LR where
  A : Option Addr
  c : Nat
  ls : List Lb
def lrC (y : LR) : List Value := [.slice y.A y.ls.length y.c]
theorem lrC_len (y : LR) : (lrC y).length = 1 := rfl
def LrIn (w : World) (y : LR) : Prop := Rd w y.A (lcells y.ls)
section
variable {H : Type} {enc : TypeId × Value → H} {W : World}
set_option maxRecDepth 100000 in
theorem open_labss {r : Reach} {b0 : Nat} {v : Value} {d : DataW H} {ps : List MemPlace} (hval : Value.okWide Tryz.prog W r b0 61 v) (h : DataW.Trod enc Tryz.prog W 0 (fun _ => true) true 61 v d ps) :
    ∃ (A : Option Addr) (cap : Nat) (l : List LR), v = .slice A l.length cap ∧ (l.length ≤ cap ∧ cap ≤ maxLen) ∧ Rd W A (l.flatMap lrC) ∧ ∀ o ∈ l, LrIn W o := by
  obtain ⟨a0, len, cap, rfl⟩ := okWide_slice Tryz.underlying61 hval
  obtain ⟨fuel, hf⟩ := h
  rcases Go.Deep.open_slice Tryz.underlying61 hf with ⟨hcs, _⟩ | ⟨a, len', cap', m, n, D, Pl, hcs, hb, hl, hm, hmm, hy, hx⟩
  · simp [Value.cells] at hcs
    obtain ⟨rfl, rfl, rfl⟩ := hcs
    exact ⟨none, 0, [], rfl, ⟨by decide, by decide⟩, Rd.nil _ _, fun o ho => by cases ho⟩
  · simp [Value.cells] at hcs
    obtain ⟨rfl, rfl, rfl⟩ := hcs
    simp only [if_true] at hmm
    rw [hmm] at hx
    have each : ∀ i, i < cap → ∃ o : LR, LrIn W o ∧ ∀ j v, (lrC o)[j]? = some v → W.cell? (a.add (i * 1 + j)) = some v := by
      intro i hi
      obtain ⟨cs', h1, h2⟩ := hx i hi
      rw [show Tryz.prog.cellsOf 25 = 1 from by kernel_rfl] at h1
      obtain ⟨_, hlen, hcell⟩ := World.cells?_some h1
      match cs', hlen with
      | [v0], _ =>
        obtain ⟨A, c, ls, e, _, ho, _⟩ := trod_labels h2
        refine ⟨⟨A, c, ls⟩, ho, fun j v hv => ?_⟩
        have hj : j < 1 := (List.getElem?_eq_some_iff.1 hv).1
        have := hcell j (by omega)
        rw [Go.Deep.add_add] at this
        rw [this]
        obtain rfl : j = 0 := by omega
        unfold lrC at hv
        simp at hv
        rw [← hv]
        simp [e]
    let f : Nat → LR := fun i => if h : i < cap then (each i h).choose else ⟨none, 0, []⟩
    have hfs : ∀ i, i < cap → LrIn W (f i) ∧ ∀ j v, (lrC (f i))[j]? = some v → W.cell? (a.add (i * 1 + j)) = some v := by
      intro i hi
      have : f i = (each i hi).choose := dif_pos hi
      rw [this]
      exact (each i hi).choose_spec
    by_cases hc0 : len = 0
    · subst hc0
      exact ⟨some a, cap, [], rfl, ⟨by simp, hm⟩, Rd.nil _ _, fun o ho => by cases ho⟩
    · have c00 := (hfs 0 (by omega)).2 0 _ rfl
      rw [Nat.zero_mul, Nat.zero_add] at c00
      obtain ⟨b, off, _, h00, _, _⟩ := addr_flat c00
      have := h00 rfl
      subst this
      refine ⟨some ⟨b, off, none⟩, cap, (List.range len).map f, by simp, ⟨by simpa using hl, hm⟩, rd_flat lrC_len (by decide) fun k x hk i v hv => ?_, fun o ho => ?_⟩
      · obtain ⟨hk', e⟩ := List.getElem?_eq_some_iff.1 hk
        have hk2 : k < len := by simpa using hk'
        have e2 : f k = x := by rw [← e]; simp
        have := (hfs k (by omega)).2 i v (by rw [e2]; exact hv)
        rw [add_plain, ← Nat.add_assoc] at this
        exact this
      · obtain ⟨i, hi, rfl⟩ := List.mem_map.1 ho
        exact (hfs i (by have := List.mem_range.1 hi; omega)).1
end
/-! ### series in an order -/
def gD (D : List (List Lb)) (i : Nat) : List Lb := (D[i]?).getD []
def seqF (D : List (List Lb)) (idx : List Nat) : List Ser := (idx.filter fun i => decide (rightP (gD D i) = 0)).map fun i => (i, gD D i)
theorem gD_inj {D : List (List Lb)} (hd : D.Nodup) {i j : Nat} (hi : i < D.length) (hj : j < D.length) (h : gD D i = gD D j) : i = j := by
  unfold gD at h
  rw [List.getElem?_eq_getElem hi, List.getElem?_eq_getElem hj] at h
  simp only [Option.getD_some] at h
  rw [List.nodup_iff_pairwise_ne, List.pairwise_iff_getElem] at hd
  rcases Nat.lt_trichotomy i j with e | e | e
  · exact absurd h (hd i j hi hj e)
  · exact e
  · exact absurd h.symm (hd j i hj hi e)
theorem seqF_step {D : List (List Lb)} (hd : D.Nodup) (hD : D.length ≤ 40) {idx : List Nat} (hn : idx.length ≤ 40) (hl : ∀ i ∈ idx, i < D.length) {i : Nat} (hi : i < D.length) (hne : i ∉ idx) :
    addC (seqF D idx) i (gD D i) = rightP (gD D i) ∧ addL (seqF D idx) i (gD D i) = seqF D (idx ++ [i]) := by
  have hmem : ∀ s ∈ seqF D idx, s.1 ∈ idx ∧ s.2 = gD D s.1 := fun s hs => by
    unfold seqF at hs
    obtain ⟨j, hj, rfl⟩ := List.mem_map.1 hs
    exact ⟨(List.mem_filter.1 hj).1, rfl⟩
  have h1 : refIn (seqF D idx) i = false := by
    rw [← Bool.not_eq_true, refIn_iff]
    rintro ⟨s, hs, e⟩
    exact hne (e ▸ (hmem s hs).1)
  have h2 : labIn (seqF D idx) (gD D i) = false := by
    rw [← Bool.not_eq_true, labIn_iff]
    rintro ⟨s, hs, e⟩
    obtain ⟨a, b⟩ := hmem s hs
    have := gD_inj hd (hl _ a) hi (b ▸ e)
    exact hne (this ▸ a)
  have h3 : (seqF D idx).length ≠ 4096 := by
    unfold seqF
    rw [List.length_map]
    have := List.length_filter_le (fun i => decide (rightP (gD D i) = 0)) idx
    omega
  have hC : addC (seqF D idx) i (gD D i) = rightP (gD D i) := by
    unfold addC
    by_cases h0 : rightP (gD D i) = 0
    · rw [if_neg (by omega), h1, h2, if_neg (by decide), if_neg h3, h0]
    · rw [if_pos h0]
  refine ⟨hC, ?_⟩
  unfold addL
  rw [hC]
  unfold seqF
  rw [List.filter_append, List.map_append]
  by_cases h0 : rightP (gD D i) = 0
  · rw [if_pos h0, List.filter_cons, if_pos (by simpa using h0)]; rfl
  · rw [if_neg h0, List.filter_cons, if_neg (by simpa using h0)]; simp
theorem seqF_mem {D : List (List Lb)} {idx jdx : List Nat} (h : ∀ i, i ∈ idx ↔ i ∈ jdx) (s : Ser) : s ∈ seqF D idx ↔ s ∈ seqF D jdx := by
  unfold seqF
  simp only [List.mem_map, List.mem_filter, h]
theorem rise_congrP {l m : List Nat} (hm : ∀ x, x ∈ l ↔ x ∈ m) : riseN l = riseN m := rise_of (riseN_ris l) fun x => by rw [riseN_mem, hm]
theorem selL_congr {L M : List Ser} (h : ∀ s, s ∈ L ↔ s ∈ M) (m : List Mt') : selL L m = selL M m := by
  unfold selL
  refine rise_congrP fun n => ?_
  simp only [List.mem_map, List.mem_filter, h]
theorem selR_congr {L M : List Ser} (h : ∀ s, s ∈ L ↔ s ∈ M) (m : List Mt') : selR L m = selR M m := by
  unfold selR; rw [selL_congr h]
theorem namesL_congr {L M : List Ser} (h : ∀ s, s ∈ L ↔ s ∈ M) : namesL L = namesL M := by
  unfold namesL
  refine riseT_congr fun n => ?_
  simp only [List.mem_flatMap, h]
def rotN (n t i : Nat) : Nat := (i + t) % n
theorem rot_inj {n t i j : Nat} (ht : t < n) (hi : i < n) (hj : j < n) (h : rotN n t i = rotN n t j) : i = j := by
  unfold rotN at h
  have h1 : (i + t) % n = if i + t < n then i + t else i + t - n := by
    split
    · exact Nat.mod_eq_of_lt (by assumption)
    · rw [Nat.mod_eq_sub_mod (by omega)]; exact Nat.mod_eq_of_lt (by omega)
  have h2 : (j + t) % n = if j + t < n then j + t else j + t - n := by
    split
    · exact Nat.mod_eq_of_lt (by assumption)
    · rw [Nat.mod_eq_sub_mod (by omega)]; exact Nat.mod_eq_of_lt (by omega)
  rw [h1, h2] at h
  split at h <;> split at h <;> omega
theorem rot_mem {n t : Nat} (ht : t < n) (j : Nat) : j ∈ (List.range n).map (rotN n t) ↔ j ∈ List.range n := by
  rw [List.mem_map, List.mem_range]
  constructor
  · rintro ⟨i, _, rfl⟩; exact Nat.mod_lt _ (by omega)
  · intro hj
    by_cases h : t ≤ j
    · refine ⟨j - t, List.mem_range.2 (by omega), ?_⟩
      unfold rotN
      rw [Nat.sub_add_cancel h]; exact Nat.mod_eq_of_lt hj
    · refine ⟨j + n - t, List.mem_range.2 (by omega), ?_⟩
      unfold rotN
      rw [Nat.sub_add_cancel (by omega), Nat.add_mod_right]; exact Nat.mod_eq_of_lt hj
section
set_option maxHeartbeats 6400000
set_option maxRecDepth 100000
theorem iaddw_any {w : World} {xb : Nat} {L : List Ser} {G : Gh} (h : IxE w xb L G) (hT : Tabs w) {n : Nat} (hn : n < 18446744073709551616) (A : Option Addr) (c : Nat) (l : List Lb) (hx : Rd w A (lcells l)) (hA : 0 < l.length → ∀ b, A.map (·.block) = some b → G.tg b = .no) (hf : Few l) :
    Calls Tryz.prog 38 #[.pointer (some ⟨xb, 0, none⟩), .int .u64 (n : Nat), .slice A l.length c] w fun e w' => e = .returned (.int .i64 (addC L n l : Nat)) ∧ IxOut w xb G (addL L n l) w' := by
  have HM := Lib.hid (imade_any h.box)
  have HP := Lib.hid (put_bytes_any A c l w hT hx hf)
  clear hT hf
  by_cases h0 : rightP l = 0
  · have hb1 : (bytesP l).1 = 0 := by unfold bytesP; rw [if_neg (by omega)]
    have HR := Lib.hid (refK_at h.wf h0)
    have hks := key_fits h0
    have HKB := Lib.hid (show keyB l = mkB (bytesP l).2 from rfl)
    unfold keyB at HR hks
    rw [hb1] at HP
    clear hb1
    generalize (bytesP l).2 = ys at HP HR hks HKB
    obtain ⟨C, hC⟩ : ∃ C, C = addC L n l := ⟨_, rfl⟩
    obtain ⟨L', hL'⟩ : ∃ L', L' = addL L n l := ⟨_, rfl⟩
    have hCd := hC
    unfold addL at hL'
    rw [← hC] at hL' ⊢
    rw [show addL L n l = L' from by rw [hL']; unfold addL; rw [← hC]]
    unfold addC at hCd
    rw [if_neg (by omega)] at hCd
    have HH := Lib.hid h
    have HC := Lib.hid hC; clear hC
    have HX := Lib.hid hx; clear hx
    have HA := Lib.hid hA; clear hA
    have hfew : l.length ≤ 16 := (right_parts h0).1
    have hLf := h.wf.few
    have h00 := Lib.hid h0; clear h0
    have step : ∀ (w1 : World) (A1 : Option Addr) (c1 : Nat), Below w.heap.size w w1 → Rd w1 A1 (ys.map Bv) →
        (∀ q, (convert 85 9 (.slice A1 ys.length c1)).run Tryz.prog (w1.drewN q) = .ok (.string (mkB ys)) (w1.drewN q)) ∧
        (∀ q, (Instr.lookup 72 (.map (some G.rb)) (.string (mkB ys)) true).run Tryz.prog (w1.drewN q) = .ok (.tuple #[((refK L (mkB ys)).map Un).getD (.int .u64 0), .bool (labIn L l)]) (w1.drewN q)) ∧
        (Instr.lookup 71 (.map (some G.sb)) (.int .u64 (n : Nat)) true).run Tryz.prog w1 = .ok (.tuple #[((labAt L n).map fun _ => G.ls n).getD (.slice none 0 0), .bool (refIn L n)]) w1 ∧
        (∀ ty q, (Builtin.len_ #[71] ty #[.map (some G.sb)]).run Tryz.prog (w1.drewN q) = .ok (.int .i64 (L.length : Nat)) (w1.drewN q)) ∧
        w1.cell? ⟨xb, 0, none⟩ = some (.map (some G.sb)) ∧ w1.cell? ⟨xb, 1, none⟩ = some (.map (some G.rb)) := fun w1 A1 c1 hb hr => by
      have h1 := HH.out.below hb
      have hd := fun q => h1.moved (w1 := w1.drewN q) (Nat.le_refl _) fun _ _ => rfl
      have c0 := cell_blk h1.box 0; have c1' := cell_blk h1.box 1
      simp only [List.getElem?_toArray, List.getElem?_cons_succ, List.getElem?_cons_zero] at c0 c1'
      refine ⟨fun q => run_str (w1.drewN q) A1 c1 ys hr, fun q => ?_, ?_, fun ty q => ?_, c0, c1'⟩
      · have := IxF.look_ref (hd q) hks true
        rw [if_pos rfl] at this
        rw [this, ← refAt_isSome, ← HR.out]
      · have := h1.look_ser hn true
        rw [if_pos rfl] at this
        rw [this, labAt_isSome]
      · have := (hd q).sm.len (t := 71) Tryz.underlying71 ty
        rw [(hd q).slen] at this
        exact this
    have STEP := Lib.hid step; clear step
    have hslt := h.al G.sb (by rw [h.st]; simp)
    have hrlt := h.al G.rb (by rw [h.rt]; simp)
    have hsl := h.slen; have hrl := h.rlen
    have HSL := Lib.hid hsl; have HRL := Lib.hid hrl; clear hsl hrl
    clear h
    generalize ((labAt L n).map fun _ => G.ls n).getD (.slice none 0 0) = sv at STEP
    generalize ((refK L (mkB ys)).map Un).getD (.int .u64 0) = rv at STEP
    cases hN : refIn L n with
    | true =>
      rw [hN, Bool.true_or, if_pos rfl] at hCd
      rw [hN] at STEP
      subst hCd
      rw [if_neg (by decide)] at hL'
      subst hL'
      clear hN
      go_enter Tryz.func38, Tryz.ntmps38
      go_wp2_with (first
        | (go_at_call 47; refine HM.out.mono ?_; rintro e w1 ⟨rfl, rfl⟩)
        | (go_at_call 50; refine HP.out.mono ?_; rintro e w1 ⟨A1, c1, rfl, ho1, hb1⟩
           obtain ⟨A1', c1', e1, hrd1, -⟩ := own_rd ho1
           injection e1 with e1 _ e3
           subst e1 e3
           obtain ⟨k1, k2, k3, k4, k5, k6⟩ := STEP.out w1 A1 c1 hb1 hrd1
           have HB1 := Lib.hid hb1
           clear hb1 ho1 hrd1)
        | fail)
      go_quiet (fail)
      go_wp2_with fail
      go_ret
      exact ⟨rfl, IxOut.same HH.out ⟨HB1.out.os, HB1.out.tape, HB1.out.output, HB1.out.size, HB1.out.block⟩⟩
    | false =>
      rw [hN, Bool.false_or] at hCd
      rw [hN] at STEP
      cases hLb : labIn L l with
      | true =>
        rw [hLb, if_pos rfl] at hCd
        rw [hLb] at STEP
        subst hCd
        rw [if_neg (by decide)] at hL'
        subst hL'
        clear hN hLb
        go_enter Tryz.func38, Tryz.ntmps38
        go_wp2_with (first
          | (go_at_call 47; refine HM.out.mono ?_; rintro e w1 ⟨rfl, rfl⟩)
          | (go_at_call 50; refine HP.out.mono ?_; rintro e w1 ⟨A1, c1, rfl, ho1, hb1⟩
             obtain ⟨A1', c1', e1, hrd1, -⟩ := own_rd ho1
             injection e1 with e1 _ e3
             subst e1 e3
             obtain ⟨k1, k2, k3, k4, k5, k6⟩ := STEP.out w1 A1 c1 hb1 hrd1
             have HB1 := Lib.hid hb1
             clear hb1 ho1 hrd1)
          | fail)
        go_quiet (fail)
        go_wp2_with fail
        go_ret
        exact ⟨rfl, IxOut.same HH.out ⟨HB1.out.os, HB1.out.tape, HB1.out.output, HB1.out.size, HB1.out.block⟩⟩
      | false =>
        rw [hLb, if_neg (by decide)] at hCd
        rw [hLb] at STEP
        clear hN hLb
        by_cases hfull : L.length = 4096
        · rw [if_pos hfull] at hCd
          subst hCd
          rw [if_neg (by decide)] at hL'
          subst hL'
          rw [hfull] at STEP
          clear hfull
          go_enter Tryz.func38, Tryz.ntmps38
          go_wp2_with (first
            | (go_at_call 47; refine HM.out.mono ?_; rintro e w1 ⟨rfl, rfl⟩)
            | (go_at_call 50; refine HP.out.mono ?_; rintro e w1 ⟨A1, c1, rfl, ho1, hb1⟩
               obtain ⟨A1', c1', e1, hrd1, -⟩ := own_rd ho1
               injection e1 with e1 _ e3
               subst e1 e3
               obtain ⟨k1, k2, k3, k4, k5, k6⟩ := STEP.out w1 A1 c1 hb1 hrd1
               have HB1 := Lib.hid hb1
               clear hb1 ho1 hrd1)
            | fail)
          go_quiet (fail)
          go_wp2_with fail
          go_ret
          exact ⟨rfl, IxOut.same HH.out ⟨HB1.out.os, HB1.out.tape, HB1.out.output, HB1.out.size, HB1.out.block⟩⟩
        · rw [if_neg hfull] at hCd
          subst hCd
          rw [if_pos rfl] at hL'
          subst hL'
          have g1 : ¬ (L.length : Int) = 4096 := by omega
          have g2 : ((L.length : Int) == 4096) = false := by rw [beq_eq_false_iff_ne]; exact g1
          go_enter Tryz.func38, Tryz.ntmps38
          go_upto_region 12 with (first
            | (go_at_call 47; refine HM.out.mono ?_; rintro e w1 ⟨rfl, rfl⟩)
            | (go_at_call 50; refine HP.out.mono ?_; rintro e w1 ⟨A1, c1, rfl, ho1, hb1⟩
               have hnb1 : ∀ b, (Value.slice A1 ys.length c1).ownBlock = some b → w.heap.size ≤ b := fun b hb => (ho1.lt b hb).1
               have HNB := Lib.hid hnb1
               have HO1 := Lib.hid ho1
               obtain ⟨A1', c1', e1, hrd1, -⟩ := own_rd ho1
               injection e1 with e1 _ e3
               subst e1 e3
               obtain ⟨k1, k2, k3, k4, k5, k6⟩ := STEP.out w1 A1 c1 hb1 hrd1
               have HB1 := Lib.hid hb1
               clear hb1 ho1 hrd1 hnb1)
            | fail)
          go_quiet (fail)
          go_upto_region 12 with (fail)
          obtain ⟨wa, hwa⟩ : ∃ wa, wa = w1.drewN nq := ⟨_, rfl⟩
          rw [← hwa]
          have hba : Below w.heap.size w wa := by rw [hwa]; exact ⟨HB1.out.os, HB1.out.tape, HB1.out.output, HB1.out.size, HB1.out.block⟩
          have hoa : wa.ownsRow w.heap.size 5 1 (.slice A1 ys.length c1) ys.length (ys.map Bv) := by rw [hwa]; exact own_moved HO1.out fun _ _ => rfl
          have hia := HH.out.below hba
          have hwx := HX.out.below hba
          have hbox := hia.box
          have hxl := hia.xlt
          have ca := cell_blk (w := wa) hbox 0
          simp only [List.getElem?_toArray, List.getElem?_cons_succ, List.getElem?_cons_zero] at ca
          have hcl := lclone_any A c l wa.drew hwx (by omega)
          have hst := fun (w3 : World) (u : Value) (hs : isSlice u = true) (hk : w3.heap[G.sb]? = wa.heap[G.sb]?) => (MapG.moved hia.sm hk).store (t := 71) (e := 25) Tryz.underlying71 (by rw [HSL.out]; unfold maxLen; omega) (a := n) hn hs
          have hrt := fun (w3 : World) (hk : w3.heap[G.rb]? = wa.heap[G.rb]?) => (MapG.moved hia.rm hk).store (t := 72) (e := 23) Tryz.underlying72 (by rw [HRL.out]; unfold maxLen; omega) (a := mkB ys) hks (v := Un n) rfl
          have hsa : G.sb < wa.heap.size := Nat.lt_of_lt_of_le hslt hba.size
          have hra : G.rb < wa.heap.size := Nat.lt_of_lt_of_le hrlt hba.size
          have HXS := Lib.hid (show ¬ xb = G.sb from fun e => by have h1 := hia.xt; have h2 := hia.st; rw [← e, h1] at h2; cases h2)
          have HRS := Lib.hid (show ¬ G.rb = G.sb from fun e => by have h1 := hia.rt; have h2 := hia.st; rw [← e, h1] at h2; cases h2)
          have HIA := Lib.hid hia; have HBOX := Lib.hid hbox; have HCL := Lib.hid hcl; have HST := Lib.hid hst; have HRT := Lib.hid hrt; have HBA := Lib.hid hba; have HOA := Lib.hid hoa
          clear hia hbox hcl hst hrt hba hoa hwx hwa k1 k2 k3 k4 k5 k6 g1 g2 HO1 HB1 STEP
          go_cut [] (fun wx => ∃ v, Aside (wx.ownsRow 0 80 2 v l.length (lcells l)) ∧ Aside (∀ b, v.ownBlock = some b → wa.heap.size ≤ b) ∧ Aside (MapG KU isSlice wx G.sb (KU.put G.sE n v)) ∧ Aside (Mv (fun k => k = G.sb) wa wx))
          case first =>
            go_region_with ((go_at_call 48; refine HCL.out.mono ?_; rintro e w3 ⟨A3, c3, rfl, ho3, hb3⟩
                             obtain ⟨w4, hr4, hm4, ht4⟩ := HST.out w3 (.slice A3 l.length c3) rfl (hb3.block _ hsa)
                             have HR4 : (Instr.mapUpdate 71 (.map (some G.sb)) (.int .u64 (n : Nat)) (.slice A3 l.length c3)).run Tryz.prog w3 = .ok () w4 := hr4
                             have c3' := cell_blk (w := w3) ((hb3.block _ hxl).trans HBOX.out) 0
                             simp only [List.getElem?_toArray, List.getElem?_cons_succ, List.getElem?_cons_zero] at c3'
                             have HO3 := Lib.hid ho3; have HB3 := Lib.hid hb3; have HM4 := Lib.hid hm4; have HT4 := Lib.hid ht4
                             clear hr4 ho3 hb3 hm4 ht4))
            all_goals
              go_wp2_with fail
              go_meet
              exact ⟨.slice A3 l.length c3, (show Aside _ from own_moved (HO3.out.lower (Nat.zero_le _)) fun b hb => (mvTurned HT4.out).block b (HO3.out.lt b hb).2 (fun e => by have h9 : wa.heap.size ≤ b := (HO3.out.lt b hb).1; omega)),
                (show Aside _ from fun b hb => (HO3.out.lt b hb).1), (show Aside _ from HM4.out), (show Aside _ from (Mv.of_below (show Below wa.heap.size wa w3 from ⟨HB3.out.os, HB3.out.tape, HB3.out.output, HB3.out.size, HB3.out.block⟩) _).trans (mvTurned HT4.out) fun _ _ e => e)⟩
          case rest =>
            obtain ⟨v, O4, V4, M4, MV4⟩ := hcut
            have hoc := own_moved HOA.out (w' := wc) fun b hb => MV4.out.block b (HOA.out.lt b hb).2 (fun e => by have := (HOA.out.lt b hb).1; omega)
            obtain ⟨A1', c1', e1, hrd, -⟩ := own_rd hoc
            injection e1 with e1 _ e3
            subst e1 e3
            have hcv := run_str wc.drew A1 c1 ys hrd
            have cr := cell_blk (w := wc.drew) ((MV4.out.block xb hxl HXS.out).trans HBOX.out) 1
            simp only [List.getElem?_toArray, List.getElem?_cons_succ, List.getElem?_cons_zero] at cr
            obtain ⟨w5, hr5, hm5, ht5⟩ := HRT.out wc.drew (MV4.out.block _ hra HRS.out)
            have HR5 : (Instr.mapUpdate 72 (.map (some G.rb)) (.string (mkB ys)) (.int .u64 (n : Nat))).run Tryz.prog wc.drew = .ok () w5 := hr5
            obtain ⟨G1, hi1, m1, s1⟩ := ix_add (w4 := wc.drew) HIA.out hn HC.out.symm O4.out V4.out (M4.out.moved rfl) MV4.out.drew (by rw [HKB.out]; exact hm5) ht5
            have HI1 := Lib.hid hi1
            have HM1 := Lib.hid ((Mv.of_below HBA.out (fun k => G.tg k ≠ .no)).trans m1 fun _ _ h => h)
            have HS1 := Lib.hid (show ∀ k, G1.tg k ≠ .no → G.tg k ≠ .no ∨ w.heap.size ≤ k from fun k hk => by
              rcases s1 k hk with h | h
              · exact .inl h
              · exact .inr (Nat.le_trans HBA.out.size h))
            clear hoc hrd hr5 hm5 ht5 hi1 m1 s1 O4 V4 M4 MV4
            go_wp2_with fail
            go_region
            clear HR5 hcv cr
            go_wp2_with fail
            go_loopw [73] (fun s73 wr => ∃ (k : Nat) (Gk : Gh), s73 = .int .i64 k ∧ k ≤ l.length ∧ Aside (IxF wr xb (L ++ [(n, l)]) (restF (L ++ [(n, l.take k)])) Gk) ∧ Aside (Mv (fun k => G.tg k ≠ .no) w wr) ∧ Aside (∀ k, Gk.tg k ≠ .no → G.tg k ≠ .no ∨ w.heap.size ≤ k)) (fun s73 _ => l.length - (intOf s73).toNat)
            case atStart => exact ⟨0, G1, rfl, Nat.zero_le _, (show Aside _ from by rw [List.take_zero, restF_none]; exact HI1.out), (show Aside _ from HM1.out), (show Aside _ from HS1.out)⟩
            case round =>
              obtain ⟨k, Gk, rfl, hk, IK, MK, SK⟩ := hrel
              have k0 : (0 : Int) ≤ (k : Int) := by omega
              by_cases hlt : k < l.length
              · have k1 : (k : Int) < (l.length : Int) := by omega
                have hrdk := Mv.rd0 MK.out HX.out (fun h9 b hb => by rw [HA.out (by rw [lcells_len] at h9; omega) b hb]; simp)
                obtain ⟨b, off, rfl, c0, c1⟩ := lb_at hrdk hlt
                have hs := right_short h00.out (List.getElem_mem hlt)
                have hsm : SmallM (L ++ [(n, l.take k)]) := ⟨by rw [List.length_append, List.length_singleton]; omega, fun s hs => by
                  rcases List.mem_append.1 hs with hs | hs
                  · exact (right_parts (HH.out.wf.right s hs)).1
                  · obtain rfl : s = (n, l.take k) := by simpa using hs
                    simp only [List.length_take]; omega⟩
                have hp := post_any (IK.out.below ((Below.refl _ wr).alloc (Nat.le_refl _) (.cells #[.string l[k].1, .string l[k].2] 80))) hsm l[k] n hn (by omega) (by omega)
                rw [restF_post L n (l.take k) (right_once h00.out hlt), List.take_append_getElem] at hp
                have HPO := Lib.hid hp
                clear hp hsm hs hrdk
                generalize l[k] = x at c0 c1 HPO
                obtain ⟨x1, x2⟩ := x
                simp only at c0 c1 HPO
                go_wp2_with (first
                  | (go_at_call 64; refine HPO.out.mono ?_; rintro e w3 ⟨rfl, hto⟩; have HTO := Lib.hid hto; clear hto)
                  | fail)
                go_roundw
                case rel =>
                  obtain ⟨G2, i2, m2, s2⟩ := HTO.out
                  have hws : (wr.alloc (.cells #[.string x1, .string x2] 80)).heap.size = wr.heap.size + 1 := World.size_alloc _ _
                  have hsz := MK.out.size
                  refine ⟨k + 1, G2, by go_num, by omega, (show Aside _ from i2), (show Aside _ from (MK.out.alloc _).trans m2 fun i hi h => ?_), (show Aside _ from fun i hi => ?_)⟩
                  · rcases SK.out i h with h | h
                    · exact h
                    · omega
                  · rcases s2 i hi with h | h
                    · exact SK.out i h
                    · exact .inr (by omega)
                case measure => simp [intOf]; omega
              · obtain rfl : k = l.length := by omega
                go_wp2
                go_ret
                exact ⟨rfl, Gk, by have := IK.out; rw [List.take_length] at this; exact this, MK.out, SK.out⟩
  · have hb1 : bytesP l = (rightP l, []) := by unfold bytesP; rw [if_pos h0]
    have hCd : addC L n l = rightP l := by unfold addC; rw [if_pos h0]
    have hLd : addL L n l = L := by unfold addL; rw [hCd, if_neg h0]
    rw [hCd, hLd]
    rw [hb1] at HP
    have HH := Lib.hid h
    clear hb1 h hCd hLd hx hA
    have g0 : ((rightP l : Int) != 0) = true := by rw [bne_iff_ne]; omega
    generalize rightP l = r at HP g0 h0
    go_enter Tryz.func38, Tryz.ntmps38
    go_wp2_with (first
      | (go_at_call 47; refine HM.out.mono ?_; rintro e w1 ⟨rfl, rfl⟩)
      | (go_at_call 50; refine HP.out.mono ?_; rintro e w1 ⟨A1, c1, rfl, ho1, hb1⟩; have HB1 := Lib.hid hb1; clear hb1 ho1)
      | fail)
    go_ret
    exact ⟨rfl, IxOut.same HH.out HB1.out⟩
end
/-! ### two indexes of the program -/
structure Duo (w0 w : World) (xb yb : Nat) (T : Nat → Prop) (L M : List Ser) : Prop where
  ex : ∃ G H, IxE w xb L G ∧ IxE w yb M H ∧ (∀ k, G.tg k ≠ .no → T k) ∧ (∀ k, H.tg k ≠ .no → T k) ∧ ∀ k, G.tg k ≠ .no → H.tg k = .no
  al : ∀ k, T k → k < w.heap.size
  lo : ∀ k, T k → w0.heap.size ≤ k
  bel : Below w0.heap.size w0 w
section
variable {w0 w w1 : World} {xb yb : Nat} {T : Nat → Prop} {L M : List Ser}
theorem Duo.below (h : Duo w0 w xb yb T L M) (hb : Below w.heap.size w w1) : Duo w0 w1 xb yb T L M where
  ex := by
    obtain ⟨G, H, h1, h2, h3, h4, h5⟩ := h.ex
    exact ⟨G, H, h1.below hb, h2.below hb, h3, h4, h5⟩
  al k hk := Nat.lt_of_lt_of_le (h.al k hk) hb.size
  lo := h.lo
  bel := h.bel.trans (hb.mono h.bel.size)
theorem Duo.swap (h : Duo w0 w xb yb T L M) : Duo w0 w yb xb T M L where
  ex := by
    obtain ⟨G, H, h1, h2, h3, h4, h5⟩ := h.ex
    exact ⟨H, G, h2, h1, h4, h3, fun k hk => Classical.byContradiction fun e => hk (h5 k e)⟩
  al := h.al
  lo := h.lo
  bel := h.bel
theorem duo_add (h : Duo w0 w xb yb T L M) (hT : Tabs w0) {n : Nat} (hn : n < 18446744073709551616) (A : Option Addr) (c : Nat) (l : List Lb) (hx : Rd w A (lcells l)) (hA : 0 < l.length → ∀ b, A.map (·.block) = some b → ¬ T b) (hf : Few l) :
    Calls Tryz.prog 38 #[.pointer (some ⟨xb, 0, none⟩), .int .u64 (n : Nat), .slice A l.length c] w fun e w' => e = .returned (.int .i64 (addC L n l : Nat)) ∧ ∃ T', Duo w0 w' xb yb T' (addL L n l) M ∧ Mv T w w' := by
  obtain ⟨G, H, h1, h2, h3, h4, h5⟩ := h.ex
  refine (iaddw_any h1 (hT.below h.bel) hn A c l hx (fun h0 b hb => Classical.byContradiction fun e => hA h0 b hb (h3 b e)) hf).mono fun e w' ⟨e1, G', i1, m1, s1⟩ => ⟨e1, fun k => T k ∨ (w.heap.size ≤ k ∧ k < w'.heap.size), ⟨⟨G', H, i1, h2.moved m1.size fun k hk => m1.block k (h2.al k hk) (fun e => hk (h5 k e)), fun k hk => ?_, fun k hk => .inl (h4 k hk), fun k hk => ?_⟩, fun k hk => ?_, fun k hk => ?_, h.bel.trans (m1.belowB h.bel.size fun k hk e => by have := h.lo k (h3 k e); omega)⟩, m1.mono fun i _ e => h3 i e⟩
  · rcases s1 k hk with e | e
    · exact .inl (h3 k e)
    · exact .inr ⟨e, i1.al k hk⟩
  · rcases s1 k hk with e | e
    · exact h5 k e
    · exact Classical.byContradiction fun e2 => by have := h2.al k e2; omega
  · rcases hk with hk | hk
    · exact Nat.lt_of_lt_of_le (h.al k hk) m1.size
    · exact hk.2
  · rcases hk with hk | hk
    · exact h.lo k hk
    · have := h.bel.size; omega
theorem duo_start {w w1 w2 : World} {xb yb : Nat} {G H : Gh} (h1 : IxE w1 xb [] G) (b1 : Below w.heap.size w w1) (g1 : ∀ k, G.tg k ≠ .no → w.heap.size ≤ k)
    (h2 : IxE w2 yb [] H) (b2 : Below w1.heap.size w1 w2) (g2 : ∀ k, H.tg k ≠ .no → w1.heap.size ≤ k) : Duo w w2 xb yb (fun k => G.tg k ≠ .no ∨ H.tg k ≠ .no) [] [] := by
  refine ⟨⟨G, H, h1.below b2, h2, fun k hk => .inl hk, fun k hk => .inr hk, fun k hk => Classical.byContradiction fun e => by have := g2 k e; have := h1.al k hk; omega⟩, fun k hk => ?_, fun k hk => ?_, b1.trans (b2.mono b1.size)⟩
  · rcases hk with hk | hk
    · exact Nat.lt_of_lt_of_le (h1.al k hk) b2.size
    · exact h2.al k hk
  · rcases hk with hk | hk
    · exact g1 k hk
    · exact Nat.le_trans b1.size (g2 k hk)
/-- The same, whatever their blocks. -/
def DuoX (w0 w : World) (xb yb : Nat) (L M : List Ser) : Prop := ∃ T, Duo w0 w xb yb T L M
theorem DuoX.bel (h : DuoX w0 w xb yb L M) : Below w0.heap.size w0 w := by
  obtain ⟨T, h⟩ := h
  exact h.bel
theorem DuoX.below (h : DuoX w0 w xb yb L M) (hb : Below w.heap.size w w1) : DuoX w0 w1 xb yb L M := by
  obtain ⟨T, h⟩ := h
  exact ⟨T, h.below hb⟩
theorem DuoX.drew (h : DuoX w0 w xb yb L M) : DuoX w0 w.drew xb yb L M := h.below ⟨rfl, rfl, rfl, Nat.le_refl _, fun _ _ => rfl⟩
theorem DuoX.drewN (h : DuoX w0 w xb yb L M) (n : Nat) : DuoX w0 (w.drewN n) xb yb L M := h.below ⟨rfl, rfl, rfl, Nat.le_refl _, fun _ _ => rfl⟩
theorem DuoX.swap (h : DuoX w0 w xb yb L M) : DuoX w0 w yb xb M L := by
  obtain ⟨T, h⟩ := h
  exact ⟨T, h.swap⟩
theorem duoX_add (h : DuoX w0 w xb yb L M) (hT : Tabs w0) {n : Nat} (hn : n < 18446744073709551616) (A : Option Addr) (c : Nat) (l : List Lb) (hx : Rd w0 A (lcells l)) (hf : Few l) :
    Calls Tryz.prog 38 #[.pointer (some ⟨xb, 0, none⟩), .int .u64 (n : Nat), .slice A l.length c] w fun e w' => e = .returned (.int .i64 (addC L n l : Nat)) ∧ DuoX w0 w' xb yb (addL L n l) M := by
  obtain ⟨T, h⟩ := h
  refine (duo_add h hT hn A c l (hx.below h.bel) (fun h0 b hb e => ?_) hf).mono fun e w' ⟨e1, T', h', _⟩ => ⟨e1, T', h'⟩
  obtain ⟨b', off, e2, c0, _⟩ := lb_at hx (k := 0) h0
  rw [e2] at hb
  injection hb with hb
  have hb : b' = b := hb
  have h1 : b' < w0.heap.size := World.block_lt_of_cell? w0 _ c0
  have h2 := h.lo b e
  omega
end
end
end Go.Proofs.YtjgappbomohlcaaGreatDoor
