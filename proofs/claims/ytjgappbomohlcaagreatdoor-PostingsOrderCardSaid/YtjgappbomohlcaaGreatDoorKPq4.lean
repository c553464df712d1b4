/-
  An index: a series more; the number of labels. An index: Add.
-/
import Derived.BigQuiet
import Derived.Deep.CutBlock
import Derived.Test.YtjgappbomohlcaaGreatDoorK02
import Derived.Test.YtjgappbomohlcaaGreatDoorK01
import Derived.Test.YtjgappbomohlcaaGreatDoorKPq2
namespace Go.Proofs.YtjgappbomohlcaaGreatDoor
section
set_option linter.unusedVariables false
set_option linter.unusedSimpArgs false
section
set_option linter.unusedVariables false
set_option linter.unusedSimpArgs false
open Go.RowKit
theorem right_short {l : List Lb} (h : rightP l = 0) {x : Lb} (hx : x ∈ l) : x.1.size ≤ 64 ∧ x.2.size ≤ 128 := by
  obtain ⟨h1, h2, -⟩ := right_parts h
  obtain ⟨n, v⟩ := fault_parts (h2 x hx).1
  unfold valuedP at v
  simp only [Bool.and_eq_true, decide_eq_true_eq] at v
  have := (named_parts n).2.1
  rw [bl_len] at this
  have h2 := v.1
  rw [bl_len] at h2
  exact ⟨this, h2⟩
theorem right_once {l : List Lb} (h : rightP l = 0) {k : Nat} (hk : k < l.length) : l[k] ∉ l.take k := by
  have h3 := rising_nodup (right_parts h).2.2
  intro hm
  obtain ⟨j, hj, e⟩ := List.mem_take_iff_getElem.1 hm
  have hjk : j < k := by omega
  have hne := (List.pairwise_iff_getElem.1 h3) j k (by rw [List.length_map]; omega) (by rw [List.length_map]; omega) hjk
  rw [List.getElem_map, List.getElem_map, e] at hne
  exact hne rfl
theorem key_size {l : List Lb} (h : rightP l = 0) : (bytesP l).2.length ≤ 1000000 := by
  unfold bytesP
  rw [if_neg (by omega)]
  simp only
  obtain ⟨h1, -, -⟩ := right_parts h
  have hp := pu_len 10 l.length (by omega)
  have hs := fun (s : ByteArray) (hs : s.size ≤ 128) => show (sizedP s).length ≤ 138 from by
    unfold sizedP; rw [List.length_append, bl_len]; have := pu_len 10 s.size (by omega); omega
  have := flat_le (fun x : Lb => sizedP x.1 ++ sizedP x.2) 300 l fun x hx => by
    obtain ⟨a, b⟩ := right_short h hx
    rw [List.length_append]
    have := hs x.1 (by omega); have := hs x.2 b
    omega
  rw [List.length_append]
  unfold labBytes
  omega
theorem key_fits {l : List Lb} (h : rightP l = 0) : (keyB l).size ≤ maxLen := by
  unfold keyB; rw [mkB_size]; have := key_size h; unfold maxLen; omega
theorem refAt_wrong {L : List Ser} (hL : Wf L) {l : List Lb} (h : rightP l ≠ 0) : refAt L l = none := by
  rw [refAt_none, ← Bool.not_eq_true, labIn_iff]
  rintro ⟨s, hs, rfl⟩
  exact h (hL.right s hs)
theorem labAt_new {L : List Ser} {n : Nat} {l : List Lb} (h : refIn L n = false) (m : Nat) : labAt (L ++ [(n, l)]) m = if m = n then some l else labAt L m := by
  unfold labAt
  rw [List.find?_append]
  by_cases e : m = n
  · subst e
    have := labAt_none.2 h
    unfold labAt at this
    rw [Option.map_eq_none_iff] at this
    rw [this]; simp
  · have : ([(n, l)] : List Ser).find? (fun s => decide (s.1 = m)) = none := by simpa using fun x : n = m => e x.symm
    rw [this, if_neg e]; simp
theorem refK_new {L : List Ser} (hL : Wf L) {n : Nat} {l : List Lb} (hr : rightP l = 0) (h : labIn L l = false) (key : ByteArray) : refK (L ++ [(n, l)]) key = if key = keyB l then some n else refK L key := by
  by_cases e : key = keyB l
  · subst e
    have h0 := refK_at hL hr
    rw [refAt_none.2 h] at h0
    unfold refK at h0 ⊢
    rw [Option.map_eq_none_iff] at h0
    rw [List.find?_append, h0]; simp
  · unfold refK
    rw [List.find?_append]
    have : ([(n, l)] : List Ser).find? (fun s => decide (keyB s.2 = key)) = none := by simpa using fun x : keyB l = key => e x.symm
    rw [this, if_neg e]; simp
theorem ix_add {W w4 w5 : World} {xb : Nat} {L : List Ser} {G : Gh} (hi : IxE W xb L G) {n : Nat} {l : List Lb} (hn : n < 18446744073709551616) (h0 : addC L n l = 0) {v : Value}
    (own4 : w4.ownsRow 0 80 2 v l.length (lcells l)) (hv : ∀ b, v.ownBlock = some b → W.heap.size ≤ b) (hm4 : MapG KU isSlice w4 G.sb (KU.put G.sE n v)) (mv4 : Mv (fun k => k = G.sb) W w4)
    (hm5 : MapG KT isNum w5 G.rb (KT.put G.rE (keyB l) (Un n))) (ht5 : w4.mapTurned w5 G.rb) :
    ∃ G1, IxF w5 xb (L ++ [(n, l)]) (restF L) G1 ∧ Mv (fun k => G.tg k ≠ .no) W w5 ∧ ∀ k, G1.tg k ≠ .no → G.tg k ≠ .no ∨ W.heap.size ≤ k := by
  obtain ⟨r1, r2, r3, r4⟩ := addC_zero h0
  have mv5 := mvTurned ht5
  have hne : G.sb ≠ G.rb := fun e => by have h1 := hi.st; have h2 := hi.rt; rw [e, h2] at h1; cases h1
  have hk : ∀ k, k < W.heap.size → k ≠ G.sb → k ≠ G.rb → w5.heap[k]? = W.heap[k]? := fun k h1 h2 h3 => (mv5.block k (Nat.lt_of_lt_of_le h1 mv4.size) h3).trans (mv4.block k h1 h2)
  have hkt : ∀ k, G.tg k ≠ .no → G.tg k ≠ .ser → G.tg k ≠ .ref → w5.heap[k]? = W.heap[k]? := fun k h1 h2 h3 => hk k (hi.al k h1) (fun e => h2 (by rw [e]; exact hi.st)) (fun e => h3 (by rw [e]; exact hi.rt))
  have hnb : ∀ k, G.tg k ≠ .no → v.ownBlock ≠ some k := fun k h1 e => by have := hi.al k h1; have := hv k e; omega
  have hrl := hi.al G.rb (by rw [hi.rt]; simp)
  have own5 : w5.ownsRow 0 80 2 v l.length (lcells l) := own_moved own4 fun b hb => mv5.block b (own4.lt b hb).2 fun e => by have := hv b hb; omega
  have hsl : G.sb < w4.heap.size := Nat.lt_of_lt_of_le (hi.al G.sb (by rw [hi.st]; simp)) mv4.size
  refine ⟨{ G with tg := fun k => if v.ownBlock = some k then .lab n else G.tg k, sE := KU.put G.sE n v, rE := KT.put G.rE (keyB l) (Un n), ls := fun m => if m = n then v else G.ls m },
    ⟨(hkt _ (by rw [hi.xt]; simp) (by rw [hi.xt]; simp) (by rw [hi.xt]; simp)).trans hi.box, ?_, hm4.moved (mv5.block _ hsl hne), ?_, fun m => ?_, fun s hs => ?_, hm5, ?_, fun key => ?_, ?_, ?_, fun k hk' => ?_⟩, ?_, fun k hk' => ?_⟩
  · show (if v.ownBlock = some xb then _ else _) = _
    rw [if_neg (hnb _ (by rw [hi.xt]; simp))]; exact hi.xt
  · show (if v.ownBlock = some G.sb then _ else _) = _
    rw [if_neg (hnb _ (by rw [hi.st]; simp))]; exact hi.st
  · rw [lk_put KU hi.sm.nd, labAt_new r2]
    by_cases e : m = n
    · subst e; simp
    · rw [if_neg e, if_neg e, hi.sl]
      simp only [if_neg e]
  · rcases List.mem_append.1 hs with hs | hs
    · have hsn : s.1 ≠ n := fun e => by
        have : refIn L n = true := refIn_iff.2 ⟨s, hs, e⟩
        rw [r2] at this; cases this
      obtain ⟨l1, l2⟩ := hi.la s hs
      simp only [if_neg hsn]
      refine ⟨own_moved l1 fun b hb => hkt b (by rw [l2 b hb]; simp) (by rw [l2 b hb]; simp) (by rw [l2 b hb]; simp), fun b hb => ?_⟩
      rw [if_neg (hnb b (by rw [l2 b hb]; simp))]; exact l2 b hb
    · obtain rfl : s = (n, l) := by simpa using hs
      simp only [if_true]
      exact ⟨own5, fun b hb => by rw [if_pos hb]⟩
  · show (if v.ownBlock = some G.rb then _ else _) = _
    rw [if_neg (hnb _ (by rw [hi.rt]; simp))]; exact hi.rt
  · rw [lk_put KT hi.rm.nd, refK_new hi.wf r1 r3]
    by_cases e : key = keyB l
    · rw [if_pos e, if_pos e]; rfl
    · rw [if_neg e, if_neg e, hi.rl]
  · refine (hi.po.moved fun k hp => hkt k (fun e => by rw [e] at hp; exact hp) (fun e => by rw [e] at hp; exact hp) (fun e => by rw [e] at hp; exact hp)).retag ⟨rfl, rfl, rfl, rfl, rfl⟩ fun k hp => ?_
    exact if_neg (hnb k fun e => by rw [e] at hp; exact hp)
  · have := hi.wf.add hn l
    unfold addL at this
    rwa [if_pos h0] at this
  · by_cases e : v.ownBlock = some k
    · exact (own5.lt k e).2
    · have h9 : (if v.ownBlock = some k then Tag.lab n else G.tg k) ≠ .no := hk'
      rw [if_neg e] at h9
      exact Nat.lt_of_lt_of_le (hi.al k h9) (Nat.le_trans mv4.size mv5.size)
  · exact (mv4.mono fun i _ e => by rw [e, hi.st]; simp).trans mv5 fun i _ e => by rw [e, hi.rt]; simp
  · by_cases e : v.ownBlock = some k
    · exact .inr (hv k e)
    · have h9 : (if v.ownBlock = some k then Tag.lab n else G.tg k) ≠ .no := hk'
      rw [if_neg e] at h9
      exact .inl h9
section
set_option maxHeartbeats 3200000
set_option maxRecDepth 100000
theorem iref_any {w : World} {xb : Nat} {L : List Ser} {F : Fp} {G : Gh} (h : IxF w xb L F G) (hT : Tabs w) (A : Option Addr) (c : Nat) (l : List Lb) (hx : Rd w A (lcells l)) (hf : Few l) :
    Calls Tryz.prog 19 #[.pointer (some ⟨xb, 0, none⟩), .slice A l.length c] w fun e w' => e = .returned (.tuple #[.int .u64 ((refAt L l).getD 0 : Nat), .bool (refAt L l).isSome]) ∧ Below w.heap.size w w' := by
  have HM := Lib.hid (imade_any h.box)
  have HP := Lib.hid (put_bytes_any A c l w hT hx hf)
  clear hT hx hf
  by_cases h0 : rightP l = 0
  · have hb1 : (bytesP l).1 = 0 := by unfold bytesP; rw [if_neg (by omega)]
    have HR := Lib.hid (refK_at h.wf h0)
    have hks := key_fits h0
    unfold keyB at HR hks
    rw [hb1] at HP
    clear hb1 h0
    generalize (bytesP l).2 = ys at HP HR hks
    have HH := Lib.hid h; clear h
    go_enter Tryz.func19, Tryz.ntmps19
    go_wp2_with (first
      | (go_at_call 47; refine HM.out.mono ?_; rintro e w1 ⟨rfl, rfl⟩)
      | (go_at_call 50; refine HP.out.mono ?_; rintro e w1 ⟨A1, c1, rfl, ho1, hb1⟩
         have h1 := HH.out.below hb1
         obtain ⟨A1', c1', e1, hrd1, -⟩ := own_rd ho1
         injection e1 with e1 _ e3
         subst e1 e3
         have hcv := fun q => run_str (w1.drewN q) A1 c1 ys hrd1
         have hlr := fun q => IxF.look_ref (w := w1.drewN q) (h1.moved (Nat.le_refl _) fun _ _ => rfl) hks true
         have cx := cell_blk h1.box 1
         simp only [List.getElem?_toArray, List.getElem?_cons_succ, List.getElem?_cons_zero] at cx
         rw [if_pos rfl] at hlr
         have HB1 := Lib.hid hb1
         clear h1 hb1 ho1 hrd1)
      | fail)
    go_quiet (fail)
    go_wp2_with fail
    rw [HR.out]
    have hb : Below w.heap.size w (w1.drewN nq) := ⟨HB1.out.os, HB1.out.tape, HB1.out.output, HB1.out.size, HB1.out.block⟩
    have HB := Lib.hid hb
    clear hb hcv hlr HR HB1
    generalize refAt L l = r
    cases r with
    | none => go_ret2; exact ⟨rfl, HB.out⟩
    | some r => go_ret2; exact ⟨rfl, HB.out⟩
  · have hb1 : bytesP l = (rightP l, []) := by unfold bytesP; rw [if_pos h0]
    rw [refAt_wrong h.wf h0]
    rw [hb1] at HP
    clear hb1 h
    have g0 : ((rightP l : Int) != 0) = true := by rw [bne_iff_ne]; omega
    generalize rightP l = r at HP g0 h0
    go_enter Tryz.func19, Tryz.ntmps19
    go_wp2_with (first
      | (go_at_call 47; refine HM.out.mono ?_; rintro e w1 ⟨rfl, rfl⟩)
      | (go_at_call 50; refine HP.out.mono ?_; rintro e w1 ⟨A1, c1, rfl, ho1, hb1⟩; have HB1 := Lib.hid hb1; clear hb1 ho1)
      | fail)
    go_ret2
    exact ⟨rfl, HB1.out⟩
end
end
section
set_option linter.unusedVariables false
set_option linter.unusedSimpArgs false
open Go.RowKit
theorem labAt_isSome (L : List Ser) (n : Nat) : (labAt L n).isSome = refIn L n := by
  cases h : refIn L n with
  | false => rw [labAt_none.2 h]; rfl
  | true =>
    cases hl : labAt L n with
    | none => rw [labAt_none.1 hl] at h; cases h
    | some x => rfl
theorem refAt_isSome (L : List Ser) (l : List Lb) : (refAt L l).isSome = labIn L l := by
  cases h : labIn L l with
  | false => rw [refAt_none.2 h]; rfl
  | true =>
    cases hl : refAt L l with
    | none => rw [refAt_none.1 hl] at h; cases h
    | some x => rfl
theorem Mv.rd0 {S : Nat → Prop} {w w1 : World} {A : Option Addr} {xs : List Value} (h : Mv S w w1) (r : Rd w A xs) (hA : 0 < xs.length → ∀ k, A.map (·.block) = some k → ¬ S k) : Rd w1 A xs := by
  cases xs with
  | nil => exact Rd.nil _ _
  | cons x t => exact h.rd r (fun k _ e => hA (by simp) k e)
theorem IxOut.same {w w' : World} {xb : Nat} {L : List Ser} {G : Gh} (h : IxE w xb L G) (hb : Below w.heap.size w w') : IxOut w xb G L w' := ⟨G, h.below hb, Mv.of_below hb _, fun k hk => .inl hk⟩
section
set_option maxHeartbeats 6400000
set_option maxRecDepth 100000
theorem iadd_any {w : World} {xb : Nat} {L : List Ser} {G : Gh} (h : IxE w xb L G) (hT : Tabs w) {n : Nat} (hn : n < 18446744073709551616) (A : Option Addr) (c : Nat) (l : List Lb) (hx : Rd w A (lcells l)) (hA : ∀ b, A.map (·.block) = some b → G.tg b = .no) (hf : Few l) :
    Calls Tryz.prog 38 #[.pointer (some ⟨xb, 0, none⟩), .int .u64 (n : Nat), .slice A l.length c] w fun e w' => e = .returned (.int .i64 (addC L n l : Nat)) ∧ IxOut w xb G (addL L n l) w' := by
  have HM := Lib.hid (imade_any h.box)
  have HP := Lib.hid (put_bytes_any A c l w hT hx hf)
  clear hT hf
  by_cases h0 : rightP l = 0
  · have hb1 : (bytesP l).1 = 0 := by unfold bytesP; rw [if_neg (by omega)]
    have HR := Lib.hid (refK_at h.wf h0)
    have hks := key_fits h0
    have HKB := Lib.hid (show keyB l = mkB (bytesP l).2 from rfl)
    unfold keyB at HR hks
    rw [hb1] at HP
    clear hb1
    generalize (bytesP l).2 = ys at HP HR hks HKB
    obtain ⟨C, hC⟩ : ∃ C, C = addC L n l := ⟨_, rfl⟩
    obtain ⟨L', hL'⟩ : ∃ L', L' = addL L n l := ⟨_, rfl⟩
    have hCd := hC
    unfold addL at hL'
    rw [← hC] at hL' ⊢
    rw [show addL L n l = L' from by rw [hL']; unfold addL; rw [← hC]]
    unfold addC at hCd
    rw [if_neg (by omega)] at hCd
    have HH := Lib.hid h
    have HC := Lib.hid hC; clear hC
    have HX := Lib.hid hx; clear hx
    have HA := Lib.hid hA; clear hA
    have hfew : l.length ≤ 16 := (right_parts h0).1
    have hLf := h.wf.few
    have h00 := Lib.hid h0; clear h0
    have step : ∀ (w1 : World) (A1 : Option Addr) (c1 : Nat), Below w.heap.size w w1 → Rd w1 A1 (ys.map Bv) →
        (∀ q, (convert 85 9 (.slice A1 ys.length c1)).run Tryz.prog (w1.drewN q) = .ok (.string (mkB ys)) (w1.drewN q)) ∧
        (∀ q, (Instr.lookup 72 (.map (some G.rb)) (.string (mkB ys)) true).run Tryz.prog (w1.drewN q) = .ok (.tuple #[((refK L (mkB ys)).map Un).getD (.int .u64 0), .bool (labIn L l)]) (w1.drewN q)) ∧
        (Instr.lookup 71 (.map (some G.sb)) (.int .u64 (n : Nat)) true).run Tryz.prog w1 = .ok (.tuple #[((labAt L n).map fun _ => G.ls n).getD (.slice none 0 0), .bool (refIn L n)]) w1 ∧
        (∀ ty q, (Builtin.len_ #[71] ty #[.map (some G.sb)]).run Tryz.prog (w1.drewN q) = .ok (.int .i64 (L.length : Nat)) (w1.drewN q)) ∧
        w1.cell? ⟨xb, 0, none⟩ = some (.map (some G.sb)) ∧ w1.cell? ⟨xb, 1, none⟩ = some (.map (some G.rb)) := fun w1 A1 c1 hb hr => by
      have h1 := HH.out.below hb
      have hd := fun q => h1.moved (w1 := w1.drewN q) (Nat.le_refl _) fun _ _ => rfl
      have c0 := cell_blk h1.box 0; have c1' := cell_blk h1.box 1
      simp only [List.getElem?_toArray, List.getElem?_cons_succ, List.getElem?_cons_zero] at c0 c1'
      refine ⟨fun q => run_str (w1.drewN q) A1 c1 ys hr, fun q => ?_, ?_, fun ty q => ?_, c0, c1'⟩
      · have := IxF.look_ref (hd q) hks true
        rw [if_pos rfl] at this
        rw [this, ← refAt_isSome, ← HR.out]
      · have := h1.look_ser hn true
        rw [if_pos rfl] at this
        rw [this, labAt_isSome]
      · have := (hd q).sm.len (t := 71) Tryz.underlying71 ty
        rw [(hd q).slen] at this
        exact this
    have STEP := Lib.hid step; clear step
    have hslt := h.al G.sb (by rw [h.st]; simp)
    have hrlt := h.al G.rb (by rw [h.rt]; simp)
    have hsl := h.slen; have hrl := h.rlen
    have HSL := Lib.hid hsl; have HRL := Lib.hid hrl; clear hsl hrl
    clear h
    generalize ((labAt L n).map fun _ => G.ls n).getD (.slice none 0 0) = sv at STEP
    generalize ((refK L (mkB ys)).map Un).getD (.int .u64 0) = rv at STEP
    cases hN : refIn L n with
    | true =>
      rw [hN, Bool.true_or, if_pos rfl] at hCd
      rw [hN] at STEP
      subst hCd
      rw [if_neg (by decide)] at hL'
      subst hL'
      clear hN
      go_enter Tryz.func38, Tryz.ntmps38
      go_wp2_with (first
        | (go_at_call 47; refine HM.out.mono ?_; rintro e w1 ⟨rfl, rfl⟩)
        | (go_at_call 50; refine HP.out.mono ?_; rintro e w1 ⟨A1, c1, rfl, ho1, hb1⟩
           obtain ⟨A1', c1', e1, hrd1, -⟩ := own_rd ho1
           injection e1 with e1 _ e3
           subst e1 e3
           obtain ⟨k1, k2, k3, k4, k5, k6⟩ := STEP.out w1 A1 c1 hb1 hrd1
           have HB1 := Lib.hid hb1
           clear hb1 ho1 hrd1)
        | fail)
      go_quiet (fail)
      go_wp2_with fail
      go_ret
      exact ⟨rfl, IxOut.same HH.out ⟨HB1.out.os, HB1.out.tape, HB1.out.output, HB1.out.size, HB1.out.block⟩⟩
    | false =>
      rw [hN, Bool.false_or] at hCd
      rw [hN] at STEP
      cases hLb : labIn L l with
      | true =>
        rw [hLb, if_pos rfl] at hCd
        rw [hLb] at STEP
        subst hCd
        rw [if_neg (by decide)] at hL'
        subst hL'
        clear hN hLb
        go_enter Tryz.func38, Tryz.ntmps38
        go_wp2_with (first
          | (go_at_call 47; refine HM.out.mono ?_; rintro e w1 ⟨rfl, rfl⟩)
          | (go_at_call 50; refine HP.out.mono ?_; rintro e w1 ⟨A1, c1, rfl, ho1, hb1⟩
             obtain ⟨A1', c1', e1, hrd1, -⟩ := own_rd ho1
             injection e1 with e1 _ e3
             subst e1 e3
             obtain ⟨k1, k2, k3, k4, k5, k6⟩ := STEP.out w1 A1 c1 hb1 hrd1
             have HB1 := Lib.hid hb1
             clear hb1 ho1 hrd1)
          | fail)
        go_quiet (fail)
        go_wp2_with fail
        go_ret
        exact ⟨rfl, IxOut.same HH.out ⟨HB1.out.os, HB1.out.tape, HB1.out.output, HB1.out.size, HB1.out.block⟩⟩
      | false =>
        rw [hLb, if_neg (by decide)] at hCd
        rw [hLb] at STEP
        clear hN hLb
        by_cases hfull : L.length = 4096
        · rw [if_pos hfull] at hCd
          subst hCd
          rw [if_neg (by decide)] at hL'
          subst hL'
          rw [hfull] at STEP
          clear hfull
          go_enter Tryz.func38, Tryz.ntmps38
          go_wp2_with (first
            | (go_at_call 47; refine HM.out.mono ?_; rintro e w1 ⟨rfl, rfl⟩)
            | (go_at_call 50; refine HP.out.mono ?_; rintro e w1 ⟨A1, c1, rfl, ho1, hb1⟩
               obtain ⟨A1', c1', e1, hrd1, -⟩ := own_rd ho1
               injection e1 with e1 _ e3
               subst e1 e3
               obtain ⟨k1, k2, k3, k4, k5, k6⟩ := STEP.out w1 A1 c1 hb1 hrd1
               have HB1 := Lib.hid hb1
               clear hb1 ho1 hrd1)
            | fail)
          go_quiet (fail)
          go_wp2_with fail
          go_ret
          exact ⟨rfl, IxOut.same HH.out ⟨HB1.out.os, HB1.out.tape, HB1.out.output, HB1.out.size, HB1.out.block⟩⟩
        · rw [if_neg hfull] at hCd
          subst hCd
          rw [if_pos rfl] at hL'
          subst hL'
          have g1 : ¬ (L.length : Int) = 4096 := by omega
          have g2 : ((L.length : Int) == 4096) = false := by rw [beq_eq_false_iff_ne]; exact g1
          go_enter Tryz.func38, Tryz.ntmps38
          go_upto_region 12 with (first
            | (go_at_call 47; refine HM.out.mono ?_; rintro e w1 ⟨rfl, rfl⟩)
            | (go_at_call 50; refine HP.out.mono ?_; rintro e w1 ⟨A1, c1, rfl, ho1, hb1⟩
               have hnb1 : ∀ b, (Value.slice A1 ys.length c1).ownBlock = some b → w.heap.size ≤ b := fun b hb => (ho1.lt b hb).1
               have HNB := Lib.hid hnb1
               have HO1 := Lib.hid ho1
               obtain ⟨A1', c1', e1, hrd1, -⟩ := own_rd ho1
               injection e1 with e1 _ e3
               subst e1 e3
               obtain ⟨k1, k2, k3, k4, k5, k6⟩ := STEP.out w1 A1 c1 hb1 hrd1
               have HB1 := Lib.hid hb1
               clear hb1 ho1 hrd1 hnb1)
            | fail)
          go_quiet (fail)
          go_upto_region 12 with (fail)
          obtain ⟨wa, hwa⟩ : ∃ wa, wa = w1.drewN nq := ⟨_, rfl⟩
          rw [← hwa]
          have hba : Below w.heap.size w wa := by rw [hwa]; exact ⟨HB1.out.os, HB1.out.tape, HB1.out.output, HB1.out.size, HB1.out.block⟩
          have hoa : wa.ownsRow w.heap.size 5 1 (.slice A1 ys.length c1) ys.length (ys.map Bv) := by rw [hwa]; exact own_moved HO1.out fun _ _ => rfl
          have hia := HH.out.below hba
          have hwx := HX.out.below hba
          have hbox := hia.box
          have hxl := hia.xlt
          have ca := cell_blk (w := wa) hbox 0
          simp only [List.getElem?_toArray, List.getElem?_cons_succ, List.getElem?_cons_zero] at ca
          have hcl := lclone_any A c l wa.drew hwx (by omega)
          have hst := fun (w3 : World) (u : Value) (hs : isSlice u = true) (hk : w3.heap[G.sb]? = wa.heap[G.sb]?) => (MapG.moved hia.sm hk).store (t := 71) (e := 25) Tryz.underlying71 (by rw [HSL.out]; unfold maxLen; omega) (a := n) hn hs
          have hrt := fun (w3 : World) (hk : w3.heap[G.rb]? = wa.heap[G.rb]?) => (MapG.moved hia.rm hk).store (t := 72) (e := 23) Tryz.underlying72 (by rw [HRL.out]; unfold maxLen; omega) (a := mkB ys) hks (v := Un n) rfl
          have hsa : G.sb < wa.heap.size := Nat.lt_of_lt_of_le hslt hba.size
          have hra : G.rb < wa.heap.size := Nat.lt_of_lt_of_le hrlt hba.size
          have HXS := Lib.hid (show ¬ xb = G.sb from fun e => by have h1 := hia.xt; have h2 := hia.st; rw [← e, h1] at h2; cases h2)
          have HRS := Lib.hid (show ¬ G.rb = G.sb from fun e => by have h1 := hia.rt; have h2 := hia.st; rw [← e, h1] at h2; cases h2)
          have HIA := Lib.hid hia; have HBOX := Lib.hid hbox; have HCL := Lib.hid hcl; have HST := Lib.hid hst; have HRT := Lib.hid hrt; have HBA := Lib.hid hba; have HOA := Lib.hid hoa
          clear hia hbox hcl hst hrt hba hoa hwx hwa k1 k2 k3 k4 k5 k6 g1 g2 HO1 HB1 STEP
          go_cut [] (fun wx => ∃ v, Aside (wx.ownsRow 0 80 2 v l.length (lcells l)) ∧ Aside (∀ b, v.ownBlock = some b → wa.heap.size ≤ b) ∧ Aside (MapG KU isSlice wx G.sb (KU.put G.sE n v)) ∧ Aside (Mv (fun k => k = G.sb) wa wx))
          case first =>
            go_region_with ((go_at_call 48; refine HCL.out.mono ?_; rintro e w3 ⟨A3, c3, rfl, ho3, hb3⟩
                             obtain ⟨w4, hr4, hm4, ht4⟩ := HST.out w3 (.slice A3 l.length c3) rfl (hb3.block _ hsa)
                             have HR4 : (Instr.mapUpdate 71 (.map (some G.sb)) (.int .u64 (n : Nat)) (.slice A3 l.length c3)).run Tryz.prog w3 = .ok () w4 := hr4
                             have c3' := cell_blk (w := w3) ((hb3.block _ hxl).trans HBOX.out) 0
                             simp only [List.getElem?_toArray, List.getElem?_cons_succ, List.getElem?_cons_zero] at c3'
                             have HO3 := Lib.hid ho3; have HB3 := Lib.hid hb3; have HM4 := Lib.hid hm4; have HT4 := Lib.hid ht4
                             clear hr4 ho3 hb3 hm4 ht4))
            all_goals
              go_wp2_with fail
              go_meet
              exact ⟨.slice A3 l.length c3, (show Aside _ from own_moved (HO3.out.lower (Nat.zero_le _)) fun b hb => (mvTurned HT4.out).block b (HO3.out.lt b hb).2 (fun e => by have h9 : wa.heap.size ≤ b := (HO3.out.lt b hb).1; omega)),
                (show Aside _ from fun b hb => (HO3.out.lt b hb).1), (show Aside _ from HM4.out), (show Aside _ from (Mv.of_below (show Below wa.heap.size wa w3 from ⟨HB3.out.os, HB3.out.tape, HB3.out.output, HB3.out.size, HB3.out.block⟩) _).trans (mvTurned HT4.out) fun _ _ e => e)⟩
          case rest =>
            obtain ⟨v, O4, V4, M4, MV4⟩ := hcut
            have hoc := own_moved HOA.out (w' := wc) fun b hb => MV4.out.block b (HOA.out.lt b hb).2 (fun e => by have := (HOA.out.lt b hb).1; omega)
            obtain ⟨A1', c1', e1, hrd, -⟩ := own_rd hoc
            injection e1 with e1 _ e3
            subst e1 e3
            have hcv := run_str wc.drew A1 c1 ys hrd
            have cr := cell_blk (w := wc.drew) ((MV4.out.block xb hxl HXS.out).trans HBOX.out) 1
            simp only [List.getElem?_toArray, List.getElem?_cons_succ, List.getElem?_cons_zero] at cr
            obtain ⟨w5, hr5, hm5, ht5⟩ := HRT.out wc.drew (MV4.out.block _ hra HRS.out)
            have HR5 : (Instr.mapUpdate 72 (.map (some G.rb)) (.string (mkB ys)) (.int .u64 (n : Nat))).run Tryz.prog wc.drew = .ok () w5 := hr5
            obtain ⟨G1, hi1, m1, s1⟩ := ix_add (w4 := wc.drew) HIA.out hn HC.out.symm O4.out V4.out (M4.out.moved rfl) MV4.out.drew (by rw [HKB.out]; exact hm5) ht5
            have HI1 := Lib.hid hi1
            have HM1 := Lib.hid ((Mv.of_below HBA.out (fun k => G.tg k ≠ .no)).trans m1 fun _ _ h => h)
            have HS1 := Lib.hid (show ∀ k, G1.tg k ≠ .no → G.tg k ≠ .no ∨ w.heap.size ≤ k from fun k hk => by
              rcases s1 k hk with h | h
              · exact .inl h
              · exact .inr (Nat.le_trans HBA.out.size h))
            clear hoc hrd hr5 hm5 ht5 hi1 m1 s1 O4 V4 M4 MV4
            go_wp2_with fail
            go_region
            clear HR5 hcv cr
            go_wp2_with fail
            go_loopw [73] (fun s73 wr => ∃ (k : Nat) (Gk : Gh), s73 = .int .i64 k ∧ k ≤ l.length ∧ Aside (IxF wr xb (L ++ [(n, l)]) (restF (L ++ [(n, l.take k)])) Gk) ∧ Aside (Mv (fun k => G.tg k ≠ .no) w wr) ∧ Aside (∀ k, Gk.tg k ≠ .no → G.tg k ≠ .no ∨ w.heap.size ≤ k)) (fun s73 _ => l.length - (intOf s73).toNat)
            case atStart => exact ⟨0, G1, rfl, Nat.zero_le _, (show Aside _ from by rw [List.take_zero, restF_none]; exact HI1.out), (show Aside _ from HM1.out), (show Aside _ from HS1.out)⟩
            case round =>
              obtain ⟨k, Gk, rfl, hk, IK, MK, SK⟩ := hrel
              have k0 : (0 : Int) ≤ (k : Int) := by omega
              by_cases hlt : k < l.length
              · have k1 : (k : Int) < (l.length : Int) := by omega
                have hrdk := Mv.rd0 MK.out HX.out (fun _ b hb => by rw [HA.out b hb]; simp)
                obtain ⟨b, off, rfl, c0, c1⟩ := lb_at hrdk hlt
                have hs := right_short h00.out (List.getElem_mem hlt)
                have hsm : SmallM (L ++ [(n, l.take k)]) := ⟨by rw [List.length_append, List.length_singleton]; omega, fun s hs => by
                  rcases List.mem_append.1 hs with hs | hs
                  · exact (right_parts (HH.out.wf.right s hs)).1
                  · obtain rfl : s = (n, l.take k) := by simpa using hs
                    simp only [List.length_take]; omega⟩
                have hp := post_any (IK.out.below ((Below.refl _ wr).alloc (Nat.le_refl _) (.cells #[.string l[k].1, .string l[k].2] 80))) hsm l[k] n hn (by omega) (by omega)
                rw [restF_post L n (l.take k) (right_once h00.out hlt), List.take_append_getElem] at hp
                have HPO := Lib.hid hp
                clear hp hsm hs hrdk
                generalize l[k] = x at c0 c1 HPO
                obtain ⟨x1, x2⟩ := x
                simp only at c0 c1 HPO
                go_wp2_with (first
                  | (go_at_call 64; refine HPO.out.mono ?_; rintro e w3 ⟨rfl, hto⟩; have HTO := Lib.hid hto; clear hto)
                  | fail)
                go_roundw
                case rel =>
                  obtain ⟨G2, i2, m2, s2⟩ := HTO.out
                  have hws : (wr.alloc (.cells #[.string x1, .string x2] 80)).heap.size = wr.heap.size + 1 := World.size_alloc _ _
                  have hsz := MK.out.size
                  refine ⟨k + 1, G2, by go_num, by omega, (show Aside _ from i2), (show Aside _ from (MK.out.alloc _).trans m2 fun i hi h => ?_), (show Aside _ from fun i hi => ?_)⟩
                  · rcases SK.out i h with h | h
                    · exact h
                    · omega
                  · rcases s2 i hi with h | h
                    · exact SK.out i h
                    · exact .inr (by omega)
                case measure => simp [intOf]; omega
              · obtain rfl : k = l.length := by omega
                go_wp2
                go_ret
                exact ⟨rfl, Gk, by have := IK.out; rw [List.take_length] at this; exact this, MK.out, SK.out⟩
  · have hb1 : bytesP l = (rightP l, []) := by unfold bytesP; rw [if_pos h0]
    have hCd : addC L n l = rightP l := by unfold addC; rw [if_pos h0]
    have hLd : addL L n l = L := by unfold addL; rw [hCd, if_neg h0]
    rw [hCd, hLd]
    rw [hb1] at HP
    have HH := Lib.hid h
    clear hb1 h hCd hLd hx hA
    have g0 : ((rightP l : Int) != 0) = true := by rw [bne_iff_ne]; omega
    generalize rightP l = r at HP g0 h0
    go_enter Tryz.func38, Tryz.ntmps38
    go_wp2_with (first
      | (go_at_call 47; refine HM.out.mono ?_; rintro e w1 ⟨rfl, rfl⟩)
      | (go_at_call 50; refine HP.out.mono ?_; rintro e w1 ⟨A1, c1, rfl, ho1, hb1⟩; have HB1 := Lib.hid hb1; clear hb1 ho1)
      | fail)
    go_ret
    exact ⟨rfl, IxOut.same HH.out HB1.out⟩
end
end
end
end Go.Proofs.YtjgappbomohlcaaGreatDoor
