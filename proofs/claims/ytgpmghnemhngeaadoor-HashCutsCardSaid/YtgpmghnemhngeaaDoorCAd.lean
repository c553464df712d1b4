/-
  What is written behind a text that is summed.
-/
import Derived.Deep.RegionHeld3
import Derived.Test.YtgpmghnemhngeaaDoorC02
import Derived.Test.YtgpmghnemhngeaaDoorCGen
namespace Go.Proofs.YtgpmghnemhngeaaDoor
section
set_option linter.unusedVariables false
set_option linter.unusedSimpArgs false
open Go.RowKit

theorem Rd.setCell1 {w : World} {A : Option Addr} {xs : List Value} (h : Rd w A xs) {p : Addr} (hp : 0 < xs.length → A.map (·.block) ≠ some p.block) (u : Value) : Rd (w.setCell p u) A xs := by
  cases xs with
  | nil => exact Rd.nil _ _
  | cons x r => exact h.setCell (hp (by simp)) u
theorem Mv.rd1 {S : Nat → Prop} {w w1 : World} {A : Option Addr} {xs : List Value} (h : Mv S w w1) (r : Rd w A xs) (hA : 0 < xs.length → ∀ k, A.map (·.block) = some k → ¬ S k) : Rd w1 A xs := by
  cases xs with
  | nil => exact Rd.nil _ _
  | cons x t => exact h.rd r (fun k _ e => hA (by simp) k e)
theorem drop_past (xs ys : List UInt8) (j : Nat) : (xs ++ ys).drop (xs.length + j) = ys.drop j := by
  rw [List.drop_append, List.drop_of_length_le (Nat.le_add_right _ _), List.nil_append, Nat.add_sub_cancel_left]

theorem hash_end {w : World} {p n j : Nat} {xs ys R' : List UInt8} (hn : ys.length = n) (hj : (xs.length + j) % 64 = 0) (hjn : j ≤ n) (hjd : n - j < 64) (hR : R'.length = 64)
    (hg : w.heap[p]? = some (.cells (spl (hashC (blocksS iv ((xs.length + j) / 64) (xs ++ ys)) R' (xs.length + n)).toArray 9 ((ys.drop j).map Bv)) 53 (0, 0))) : HashIs w p (xs ++ ys) := by
  have hlen : (xs ++ ys).length = xs.length + n := by rw [List.length_append, hn]
  have hdl : (ys.drop j).length = n - j := by rw [List.length_drop, hn]
  have e1 : (xs ++ ys).length / 64 = (xs.length + j) / 64 := by rw [hlen]; omega
  have e2 : (xs ++ ys).length % 64 = n - j := by rw [hlen]; omega
  have hs := hashC_setRest (s := blocksS iv ((xs.length + j) / 64) (xs ++ ys)) (R := R') (ys := ys.drop j) (n := xs.length + n) (o := 0) hR (by omega)
  rw [Nat.add_zero] at hs
  refine ⟨R'.take 0 ++ ys.drop j ++ R'.drop (0 + (ys.drop j).length), ⟨?_, ?_⟩, ?_⟩
  · rw [e1, hlen, hg, hs]
  · simp [hdl, hR]; omega
  · rw [e1, e2, show 64 * ((xs.length + j) / 64) = xs.length + j from by omega, drop_past, List.take_zero, List.nil_append, List.take_append_of_le_length (by omega), List.take_of_length_le (by omega)]

/-- A copy of so many cells. -/
theorem wpList_copy_n {P : Program} {w : World} {ops : Array Oper} {rest : List Oper} {o : Oper} {a : Act} {Q : Exit → Act → World → Prop} (hgd : o.guard = none) (d s : Operand) (dT sT : TypeId)
    (ho : o.op = .call { callee := .builtin .copy, args := #[d, s], argTypes := #[dT, sT] }) (elem : TypeId) (hu : P.underlying dT = some (.slice elem)) (hsz : (P.info? elem).map (·.size) = some 1)
    (dp sp : Option Addr) (dLen dCap sLen sCap : Nat) (hd : a.eval d = .slice dp dLen dCap) (hs : a.eval s = .slice sp sLen sCap)
    (g off : Nat) (cur : Array Value) (t : TypeId) (hg : w.heap[g]? = some (.cells cur t (0, 0))) (cs : List Value) (m : Nat) (hm : cs.length = m) (hn : m = Nat.min sLen dLen)
    (hpos : 0 < m → dp = some ⟨g, off, none⟩) (hsrc : Rd w sp cs)
    (hfit : off + m ≤ cur.size) (h1 : ∀ v ∈ cs, v.oneCell' = true)
    (h : ∀ w', w'.heap[g]? = some (.cells (spl cur off cs) t (0, 0)) → Mv (fun k => k = g) w w' → w'.heap.size = w.heap.size → wpList P ops Q rest (a.put o.dst (.int .i64 (m : Nat))) w') :
    wpList P ops Q (o :: rest) a w := by
  subst hm
  exact wpList_copy_mv hgd d s dT sT ho elem hu hsz dp sp dLen dCap sLen sCap hd hs g off cur t hg cs hn hpos hsrc hfit h1 h
theorem hash_part {w : World} {p n d : Nat} {xs ys R : List UInt8} (hn : ys.length = n) (hd : d = xs.length % 64) (hdn : d + n < 64) (hR : R.length = 64) (hRT : R.take d = xs.drop (64 * (xs.length / 64)))
    (hg : w.heap[p]? = some (.cells (spl (hashC (blocksS iv (xs.length / 64) xs) R (xs.length + n)).toArray (9 + d) (ys.map Bv)) 53 (0, 0))) : HashIs w p (xs ++ ys) := by
  have hlen : (xs ++ ys).length = xs.length + n := by rw [List.length_append, hn]
  have e1 : (xs ++ ys).length / 64 = xs.length / 64 := by rw [hlen]; omega
  have e2 : (xs ++ ys).length % 64 = d + n := by rw [hlen]; omega
  have htl : (R.take d).length = d := by rw [List.length_take, hR]; omega
  refine ⟨R.take d ++ ys ++ R.drop (d + ys.length), ⟨?_, ?_⟩, ?_⟩
  · rw [e1, hlen, hg, hashC_setRest hR (by omega), blocksS_append _ _ _ _ (by omega)]
  · simp [hn, hR]; omega
  · rw [e1, e2, List.take_append_of_le_length (by rw [List.length_append, htl, hn]; exact Nat.le_refl _), List.take_of_length_le (by rw [List.length_append, htl, hn]; exact Nat.le_refl _), hRT, List.drop_append_of_le_length (by omega)]

theorem bcell {W w1 : World} (hb : Below W.heap.size W w1) : (∀ b o, b < W.heap.size → w1.cell? ⟨b, o, none⟩ = W.cell? ⟨b, o, none⟩) ∧ (∀ b o, b < W.heap.size → w1.frozen? ⟨b, o, none⟩ = W.frozen? ⟨b, o, none⟩) :=
  ⟨fun b o h => hb.cell (p := ⟨b, o, none⟩) h, fun b o h => hb.frozen (p := ⟨b, o, none⟩) h⟩
def EightAt (w : World) (p : Nat) (s : St) : Prop := w.cell? ⟨p, 1, none⟩ = some (.int .u32 (s.a : Nat)) ∧ w.cell? ⟨p, 2, none⟩ = some (.int .u32 (s.b : Nat)) ∧ w.cell? ⟨p, 3, none⟩ = some (.int .u32 (s.c : Nat)) ∧ w.cell? ⟨p, 4, none⟩ = some (.int .u32 (s.d : Nat)) ∧
  w.cell? ⟨p, 5, none⟩ = some (.int .u32 (s.e : Nat)) ∧ w.cell? ⟨p, 6, none⟩ = some (.int .u32 (s.f : Nat)) ∧ w.cell? ⟨p, 7, none⟩ = some (.int .u32 (s.g : Nat)) ∧ w.cell? ⟨p, 8, none⟩ = some (.int .u32 (s.h : Nat))
theorem eight_cells {w w3 : World} {p : Nat} {s : St} (hb : Below w.drew.heap.size w.drew w3) (hp : p < w.heap.size) (hc : EightAt w p s) (hf : ∀ i, w.frozen? ⟨p, i, none⟩ = false) :
    EightAt w3 p s ∧ (w3.frozen? ⟨p, 1, none⟩ = false ∧ w3.frozen? ⟨p, 2, none⟩ = false ∧ w3.frozen? ⟨p, 3, none⟩ = false ∧ w3.frozen? ⟨p, 4, none⟩ = false ∧ w3.frozen? ⟨p, 5, none⟩ = false ∧ w3.frozen? ⟨p, 6, none⟩ = false ∧ w3.frozen? ⟨p, 7, none⟩ = false ∧ w3.frozen? ⟨p, 8, none⟩ = false) := by
  obtain ⟨h1, h2⟩ := bcell hb
  have e1 : ∀ i, w3.cell? ⟨p, i, none⟩ = w.cell? ⟨p, i, none⟩ := fun i => h1 p i hp
  have e2 : ∀ i, w3.frozen? ⟨p, i, none⟩ = false := fun i => (h2 p i hp).trans (hf i)
  unfold EightAt at hc ⊢
  refine ⟨?_, e2 _, e2 _, e2 _, e2 _, e2 _, e2 _, e2 _, e2 _⟩
  simp only [e1]
  exact hc
theorem hashC_sets (s s2 : St) (R : List UInt8) (n : Nat) :
    ((((((((hashC s R n).toArray.setIfInBounds 1 (.int .u32 (s2.a : Nat))).setIfInBounds 2 (.int .u32 (s2.b : Nat))).setIfInBounds 3 (.int .u32 (s2.c : Nat))).setIfInBounds 4 (.int .u32 (s2.d : Nat))).setIfInBounds 5 (.int .u32 (s2.e : Nat))).setIfInBounds 6 (.int .u32 (s2.f : Nat))).setIfInBounds 7 (.int .u32 (s2.g : Nat))).setIfInBounds 8 (.int .u32 (s2.h : Nat)) = (hashC s2 R n).toArray := by
  simp only [hashC, stC, List.cons_append, List.nil_append, List.setIfInBounds_toArray, List.set_cons_succ, List.set_cons_zero]
theorem _root_.Go.Proofs.YtgpmghnemhngeaaDoor.Mv.set1 {w0 w : World} {p i : Nat} {v : Value} (h : Mv (fun k => k = p) w0 w) : Mv (fun k => k = p) w0 (w.setCell ⟨p, i, none⟩ v) := h.setCell (p := ⟨p, i, none⟩) (fun _ => rfl) v
theorem eight_set {w3 : World} {p n : Nat} {s s2 : St} {R : List UInt8} (h : HashRaw w3 p s R n) : HashRaw ((((((((w3.setCell ⟨p, 1, none⟩ (.int .u32 (s2.a : Nat))).setCell ⟨p, 2, none⟩ (.int .u32 (s2.b : Nat))).setCell ⟨p, 3, none⟩ (.int .u32 (s2.c : Nat))).setCell ⟨p, 4, none⟩ (.int .u32 (s2.d : Nat))).setCell ⟨p, 5, none⟩ (.int .u32 (s2.e : Nat))).setCell ⟨p, 6, none⟩ (.int .u32 (s2.f : Nat))).setCell ⟨p, 7, none⟩ (.int .u32 (s2.g : Nat))).setCell ⟨p, 8, none⟩ (.int .u32 (s2.h : Nat))) p s2 R n ∧ Mv (fun k => k = p) w3 ((((((((w3.setCell ⟨p, 1, none⟩ (.int .u32 (s2.a : Nat))).setCell ⟨p, 2, none⟩ (.int .u32 (s2.b : Nat))).setCell ⟨p, 3, none⟩ (.int .u32 (s2.c : Nat))).setCell ⟨p, 4, none⟩ (.int .u32 (s2.d : Nat))).setCell ⟨p, 5, none⟩ (.int .u32 (s2.e : Nat))).setCell ⟨p, 6, none⟩ (.int .u32 (s2.f : Nat))).setCell ⟨p, 7, none⟩ (.int .u32 (s2.g : Nat))).setCell ⟨p, 8, none⟩ (.int .u32 (s2.h : Nat))) := by
  refine ⟨⟨?_, h.2⟩, ?_⟩
  · have h1 := set_blk (set_blk (set_blk (set_blk (set_blk (set_blk (set_blk (set_blk h.1 1 (.int .u32 (s2.a : Nat))) 2 (.int .u32 (s2.b : Nat))) 3 (.int .u32 (s2.c : Nat))) 4 (.int .u32 (s2.d : Nat))) 5 (.int .u32 (s2.e : Nat))) 6 (.int .u32 (s2.f : Nat))) 7 (.int .u32 (s2.g : Nat))) 8 (.int .u32 (s2.h : Nat))
    exact h1.trans (congrArg (fun c => some (Obj.cells c 53 (0, 0))) (hashC_sets s s2 R n))
  · exact (Mv.refl (fun k => k = p) w3).set1.set1.set1.set1.set1.set1.set1.set1
theorem mixed_lit (w : World) (s : St) (hs : s.Ok) (A : Option Addr) (ca n : Nat) (xs : List UInt8) (ht : AddsMet w) (hn : xs.length = n) (hx : Rd w A (xs.map Bv)) (hl : 64 ≤ n) (hm : n ≤ 9223372036854775807) (s2 : St) (h2 : s2 = blockS s xs) :
    Calls Tryd.prog 45 #[.agg #[.int .u32 (s.a : Nat), .int .u32 (s.b : Nat), .int .u32 (s.c : Nat), .int .u32 (s.d : Nat), .int .u32 (s.e : Nat), .int .u32 (s.f : Nat), .int .u32 (s.g : Nat), .int .u32 (s.h : Nat)], .slice A n ca] w fun e w' =>
      e = .returned (.agg #[.int .u32 (s2.a : Nat), .int .u32 (s2.b : Nat), .int .u32 (s2.c : Nat), .int .u32 (s2.d : Nat), .int .u32 (s2.e : Nat), .int .u32 (s2.f : Nat), .int .u32 (s2.g : Nat), .int .u32 (s2.h : Nat)]) ∧ Below w.heap.size w w' := by
  subst h2
  exact mixed_any w s hs A ca n xs ht hn hx hl hm

section
set_option maxHeartbeats 1600000
set_option maxRecDepth 100000
theorem add_any (w : World) (p : Nat) (xs ys : List UInt8) (A : Option Addr) (ca n : Nat) (h : HashIs w p xs) (ht : AddsMet w) (hn : ys.length = n) (hy : Rd w A (ys.map Bv)) (hA : 0 < n → ∀ k, A.map (·.block) = some k → k ≠ p)
    (hc : n ≤ ca) (hm : ca ≤ 9223372036854775807) (hl : xs.length + n ≤ 140737488355328) :
    Calls Tryd.prog 27 #[.pointer (some ⟨p, 0, none⟩), .slice A n ca] w fun e w' => e = .returned (.tuple #[]) ∧ HashIs w' p (xs ++ ys) ∧ Mv (fun k => k = p) w w' := by
  obtain ⟨R, hr, hR⟩ := h
  have hne := hr.ne_table ht
  have c73 := hr.cell 73
  rw [hashC_size hr.2] at c73
  have f73 := free_blk hr.1 73
  have hso : (blocksS iv (xs.length / 64) xs).Ok := blocksS_ok iv_ok _ _
  have HR := Lib.hid hr; clear hr
  have HRT := Lib.hid hR; clear hR
  have HT := Lib.hid ht; clear ht
  have HN := Lib.hid hn; clear hn
  by_cases h0 : xs.length % 64 = 0
  · have h0' : decide (0 < (xs.length : Int) % 64) = false := by simp; omega
    go_enter Tryd.func27, Tryd.ntmps27
    go_wp2
    go_loopw [1] (fun v wr => ∃ (j : Nat) (A' : Option Addr) (c' : Nat), (xs.length + j) % 64 = 0 ∧ j ≤ n ∧ n - j ≤ c' ∧ c' ≤ 9223372036854775807 ∧ v = .slice A' (n - j) c' ∧ A'.map (·.block) = A.map (·.block) ∧ Rd wr A' ((ys.drop j).map Bv)
        ∧ (∃ R', HashRaw wr p (blocksS iv ((xs.length + j) / 64) (xs ++ ys)) R' (xs.length + n)) ∧ Mv (fun k => k = p) w wr) (fun v _ => match v with | .slice _ m _ => m | _ => 0)
    case atStart => exact ⟨0, A, ca, by omega, by omega, by omega, hm, rfl, rfl, Rd.setCell1 hy (fun h0 e => hA (by rw [List.length_map, HN.out] at h0; exact h0) p e rfl) _, ⟨R, by
        have hb : HR.out.1 = HR.out.1 := rfl
        refine ⟨?_, HR.out.2⟩
        rw [set_blk HR.out.1, show ((xs.length : Int) + (n : Int)) = ((xs.length + n : Nat) : Int) from rfl, hashC_setSize HR.out.2, Nat.add_zero, blocksS_append _ _ _ _ (by omega)]⟩, (Mv.refl (fun k => k = p) w).setCell (p := ⟨p, 73, none⟩) (fun _ => rfl) _⟩
    case round =>
      clear c73 f73 h0'
      obtain ⟨j, A', c', hj, hjn, hjc, hc', rfl, hbl, hrd', ⟨R', hraw⟩, hmv⟩ := hrel
      have ht' := AddsMet.moved HT.out hmv hne
      have hlen : ((ys.drop j).length : Nat) = n - j := by rw [List.length_drop, HN.out]
      by_cases hlt : 64 ≤ n - j
      · have hok : (blocksS iv ((xs.length + j) / 64) (xs ++ ys)).Ok := blocksS_ok iv_ok _ _
        have hstep : blockS (blocksS iv ((xs.length + j) / 64) (xs ++ ys)) (ys.drop j) = blocksS iv ((xs.length + (j + 64)) / 64) (xs ++ ys) := by
          rw [show (xs.length + (j + 64)) / 64 = (xs.length + j) / 64 + 1 from by omega, blocksS_succ, show 64 * ((xs.length + j) / 64) = xs.length + j from by omega]
          rw [drop_past]
        generalize blocksS iv ((xs.length + j) / 64) (xs ++ ys) = st at *
        have HST := Lib.hid hstep; clear hstep
        have HRAW := Lib.hid hraw; clear hraw
        have HLEN := Lib.hid hlen; clear hlen
        have HT' := Lib.hid ht'; clear ht'
        have HJ := Lib.hid hj; clear hj
        have HBL := Lib.hid hbl; clear hbl
        obtain ⟨sl, hsl⟩ : ∃ sl, sl = stC st := ⟨_, rfl⟩
        have HSL := Lib.hid hsl; clear hsl
        go_wp2_with (first
          | (refine wpList_load_agg (o := ⟨some 55, _, _, _, _, _⟩) ?_ 49 (.tmp 54) ?_ p 1 ?_ sl ?_ ?_ ?_ ?_; rfl; rfl; rfl; kernel_rfl; (rw [HSL.out]; kernel_rfl); (rw [HSL.out]; intro i v hv; rw [HRAW.out.cell, hashC_state _ _ _ i (by have := (List.getElem?_eq_some_iff.1 hv).1; exact this), ← stC_get _ i (by have := (List.getElem?_eq_some_iff.1 hv).1; exact this)]; exact hv))
          | fail)
        rw [HSL.out]
        refine (mixed_any wr st hok A' c' (n - j) (ys.drop j) HT'.out HLEN.out hrd' hlt (by omega)).mono ?_
        rintro e w1 ⟨rfl, hb1⟩
        have hr1 := HRAW.out.block (hb1.block p HRAW.out.lt)
        have HR1 := Lib.hid hr1; clear hr1
        obtain ⟨s2, hs2⟩ : ∃ s2, s2 = stC (blockS st (ys.drop j)) := ⟨_, rfl⟩
        have hs2' : stV (blockS st (ys.drop j)) = .agg s2.toArray := by rw [hs2]; rfl
        rw [hs2']
        have HS2 := Lib.hid hs2; clear hs2 hs2'
        go_wp2_with (first
          | (refine wpList_store_agg (o := ⟨none, _, _, _, _, _⟩) ?_ 49 (.tmp 59) (.tmp 57) ?_ p 1 s2 ?_ ?_ 53 (hashC st R' (xs.length + n)).toArray HR1.out.1 ?_ ?_ ?_ ?_; rfl; rfl; rfl; rfl; (rw [HS2.out]; kernel_rfl); (rw [HS2.out, List.size_toArray, hashC_length HR1.out.2]; show 1 + 8 ≤ 74; decide); (rw [HS2.out]; intro v hv; simp only [stC, List.mem_cons, List.not_mem_nil, or_false] at hv; rcases hv with rfl | rfl | rfl | rfl | rfl | rfl | rfl | rfl <;> rfl); intro w2 hg2 hm2 hs2)
          | (refine wpList_slice_any (o := ⟨some 61, _, _, _, _, _⟩) ?_ 28 (.tmp 60) (some (.const (.int .i64 64))) none ?_ 5 Tryd.underlying28 (by kernel_rfl) A' (n - j) c' 64 (n - j) ?_ ?_ ?_ hlt hjc ?_; rfl; rfl; rfl; exact .inl rfl; exact .inr ⟨rfl, rfl⟩; intro A2 hA2 hrd2)
          | fail)
        go_roundw
        case rel =>
          have hrw : Rd w2 A' ((ys.drop j).map Bv) := Mv.rd1 hm2 (hrd'.below hb1) (fun h0 k e => by rw [List.length_map, HLEN.out] at h0; rw [HBL.out] at e; exact hA (by omega) k e)
          have hd := hrd2 _ (by rw [List.length_map, HLEN.out]; exact hjc) hrw
          rw [← List.map_drop, List.drop_drop] at hd
          refine ⟨j + 64, A2, c' - 64, by have := HJ.out; omega, by omega, by omega, by omega, by rw [show n - (j + 64) = n - j - 64 from by omega], by rw [hA2, HBL.out], hd, ⟨R', ?_, HR1.out.2⟩, (Mv.trans hmv (Mv.of_below hb1 _) (fun _ _ h => h)).trans hm2 (fun _ _ h => h)⟩
          rw [hg2, HS2.out, hashC_setState HR1.out.2, HST.out]
        case measure => simp; omega
      · have hjd : n - j < 64 := by omega
        have HRAW := Lib.hid hraw; clear hraw
        have HLEN := Lib.hid hlen; clear hlen
        have HT' := Lib.hid ht'; clear ht'
        have HJ := Lib.hid hj; clear hj
        have HBL := Lib.hid hbl; clear hbl
        go_wp2_with (first
          | (refine wpList_copy_mv (o := ⟨some 67, _, _, _, _, _⟩) ?_ (.tmp 65) (.tmp 66) 28 28 ?_ 5 Tryd.underlying28 (by kernel_rfl) (some ⟨p, 9, none⟩) A' 64 64 (n - j) c' ?_ ?_ p 9 (hashC (blocksS iv ((xs.length + j) / 64) (xs ++ ys)) R' (xs.length + n)).toArray 53 HRAW.out.1 ((ys.drop j).map Bv) ?_ ?_ hrd' ?_ ?_ ?_; rfl; rfl; rfl; rfl; (rw [List.length_map, HLEN.out]; exact (Nat.min_eq_left (by omega)).symm); (intro _; rfl); (rw [List.length_map, HLEN.out, List.size_toArray, hashC_length HRAW.out.2]; omega); (intro v hv; obtain ⟨x, _, rfl⟩ := List.mem_map.1 hv; rfl); intro w2 hg2 hm2 hs2)
          | fail)
        go_end0
        exact ⟨rfl, hash_end HN.out HJ.out hjn hjd HRAW.out.2 hg2, hmv.trans hm2 (fun _ _ h => h)⟩
  · obtain ⟨d, hdd⟩ : ∃ d, d = xs.length % 64 := ⟨_, rfl⟩
    have hd0 : 0 < d := by omega
    have hd1 : d < 64 := by omega
    have hde : (xs.length : Int) % 64 = (d : Int) := by omega
    rw [← hdd] at HRT
    have HDD := Lib.hid hdd; clear hdd h0
    have hgs : (w.setCell ⟨p, 73, none⟩ (.int .i64 ((xs.length : Int) + (n : Int)))).heap[p]? = some (.cells (hashC (blocksS iv (xs.length / 64) xs) R (xs.length + n)).toArray 53 (0, 0)) := by
      rw [set_blk HR.out.1, show ((xs.length : Int) + (n : Int)) = ((xs.length + n : Nat) : Int) from rfl, hashC_setSize HR.out.2]
    have hys : Rd (w.setCell ⟨p, 73, none⟩ (.int .i64 ((xs.length : Int) + (n : Int)))) A (ys.map Bv) := Rd.setCell1 hy (fun h0 e => hA (by rw [List.length_map, HN.out] at h0; exact h0) p e rfl) _
    have hm0 : Mv (fun k => k = p) w (w.setCell ⟨p, 73, none⟩ (.int .i64 ((xs.length : Int) + (n : Int)))) := (Mv.refl (fun k => k = p) w).setCell (p := ⟨p, 73, none⟩) (fun _ => rfl) _
    have hsl := fun (u : World) => run_slice_array (P := Tryd.prog) u 51 5 64 p 9 d Tryd.underlying51 (by kernel_rfl) hd1
    have HGS := Lib.hid hgs; clear hgs
    by_cases hfull : d + n < 64
    · have hlt : decide ((d : Int) + (n : Int) < 64) = true := by simp; omega
      go_enter Tryd.func27, Tryd.ntmps27
      go_wp2_with (first
        | (refine wpList_copy_n (o := ⟨some 28, _, _, _, _, _⟩) ?_ (.tmp 26) (.tmp 27) 28 28 ?_ 5 Tryd.underlying28 (by kernel_rfl) (some ⟨p, 9 + d, none⟩) A (64 - d) (64 - d) n ca ?_ ?_ p (9 + d) (hashC (blocksS iv (xs.length / 64) xs) R (xs.length + n)).toArray 53 HGS.out (ys.map Bv) n ?_ ?_ ?_ hys ?_ ?_ ?_; rfl; rfl; rfl; rfl; (rw [List.length_map, HN.out]); exact (Nat.min_eq_left (by omega)).symm; (intro _; rfl); (rw [List.size_toArray, hashC_length HR.out.2]; omega); (intro v hv; obtain ⟨x, _, rfl⟩ := List.mem_map.1 hv; rfl); intro w2 hg2 hm2 hs2)
        | fail)
      refine bodyPost_ret (v := .tuple #[]) (by simp [results, Tryd.results27, go_sem]) rfl ⟨rfl, hash_part HN.out HDD.out hfull HR.out.2 HRT.out hg2, hm0.trans hm2 (fun _ _ h => h)⟩
    · have hlt : decide ((d : Int) + ((64 - d : Nat) : Int) < 64) = false := by simp; omega
      have hnn : 64 - d ≤ n := by omega
      go_enter Tryd.func27, Tryd.ntmps27
      go_wp2_with (first
        | (refine wpList_copy_n (o := ⟨some 28, _, _, _, _, _⟩) ?_ (.tmp 26) (.tmp 27) 28 28 ?_ 5 Tryd.underlying28 (by kernel_rfl) (some ⟨p, 9 + d, none⟩) A (64 - d) (64 - d) n ca ?_ ?_ p (9 + d) (hashC (blocksS iv (xs.length / 64) xs) R (xs.length + n)).toArray 53 HGS.out ((ys.take (64 - d)).map Bv) (64 - d) ?_ ?_ ?_ (hys.bytes_take _) ?_ ?_ ?_; rfl; rfl; rfl; rfl; (rw [List.length_map, List.length_take, HN.out]; omega); exact (Nat.min_eq_right hnn).symm; (intro _; rfl); (rw [List.size_toArray, hashC_length HR.out.2]; omega); (intro v hv; obtain ⟨x, _, rfl⟩ := List.mem_map.1 hv; rfl); intro w2 hg2 hm2 hs2)
        | fail)
      have hg2' : w2.heap[p]? = some (.cells (hashC (blocksS iv (xs.length / 64) xs) (R.take d ++ ys.take (64 - d)) (xs.length + n)).toArray 53 (0, 0)) := by
        have hl : (ys.take (64 - d)).length = 64 - d := by rw [List.length_take, HN.out]; omega
        rw [hg2, hashC_setRest HR.out.2 (by omega), hl, List.drop_of_length_le (by rw [HR.out.2]; omega), List.append_nil]
      have hrl : (R.take d ++ ys.take (64 - d)).length = 64 := by rw [List.length_append, List.length_take, List.length_take, HR.out.2, HN.out]; omega
      have hraw2 : HashRaw w2 p (blocksS iv (xs.length / 64) xs) (R.take d ++ ys.take (64 - d)) (xs.length + n) := ⟨hg2', hrl⟩
      have hpl := hraw2.lt
      have hrr := hraw2.rest
      have hmv2 := hm0.trans hm2 (fun _ _ h => h)
      have ht2 : AddsMet w2 := AddsMet.moved HT.out hmv2 hne
      have hy2 : Rd w2 A (ys.map Bv) := Mv.rd1 hm2 hys (fun h0 k e => hA (by rw [List.length_map, HN.out] at h0; exact h0) k e)
      obtain ⟨s2, hs2⟩ : ∃ s2, s2 = blockS (blocksS iv (xs.length / 64) xs) (R.take d ++ ys.take (64 - d)) := ⟨_, rfl⟩
      generalize hR2 : R.take d ++ ys.take (64 - d) = R2 at *
      generalize hst : blocksS iv (xs.length / 64) xs = st at *
      have c1 : w2.cell? ⟨p, 1, none⟩ = some (.int .u32 (st.a : Nat)) := (hraw2.cell 1).trans (hashC_state _ _ _ 0 (by decide))
      have c2 : w2.cell? ⟨p, 2, none⟩ = some (.int .u32 (st.b : Nat)) := (hraw2.cell 2).trans (hashC_state _ _ _ 1 (by decide))
      have c3 : w2.cell? ⟨p, 3, none⟩ = some (.int .u32 (st.c : Nat)) := (hraw2.cell 3).trans (hashC_state _ _ _ 2 (by decide))
      have c4 : w2.cell? ⟨p, 4, none⟩ = some (.int .u32 (st.d : Nat)) := (hraw2.cell 4).trans (hashC_state _ _ _ 3 (by decide))
      have c5 : w2.cell? ⟨p, 5, none⟩ = some (.int .u32 (st.e : Nat)) := (hraw2.cell 5).trans (hashC_state _ _ _ 4 (by decide))
      have c6 : w2.cell? ⟨p, 6, none⟩ = some (.int .u32 (st.f : Nat)) := (hraw2.cell 6).trans (hashC_state _ _ _ 5 (by decide))
      have c7 : w2.cell? ⟨p, 7, none⟩ = some (.int .u32 (st.g : Nat)) := (hraw2.cell 7).trans (hashC_state _ _ _ 6 (by decide))
      have c8 : w2.cell? ⟨p, 8, none⟩ = some (.int .u32 (st.h : Nat)) := (hraw2.cell 8).trans (hashC_state _ _ _ 7 (by decide))
      have fz := fun i => free_blk hraw2.1 i
      have HRAW := Lib.hid hraw2; clear hraw2
      have HS2 := Lib.hid hs2; clear hs2
      have HST := Lib.hid hst; clear hst
      have HR2 := Lib.hid hR2; clear hR2
      have HRL := Lib.hid hrl; clear hrl hg2'
      have HT2 := Lib.hid ht2; clear ht2
      clear hg2 hm2
      go_region_with ((go_at_call 45; refine (mixed_lit w2.drew st hso (some ⟨p, 9, none⟩) 64 64 R2 (show AddsMet w2.drew from HT2.out) HRL.out (show Rd w2.drew _ _ from hrr) (by decide) (by decide) s2 HS2.out).mono ?_; rintro e w3 ⟨rfl, hb3⟩; obtain ⟨⟨k1, k2, k3, k4, k5, k6, k7, k8⟩, ⟨z1, z2, z3, z4, z5, z6, z7, z8⟩⟩ := eight_cells hb3 hpl ⟨c1, c2, c3, c4, c5, c6, c7, c8⟩ fz; have HB3 := Lib.hid hb3; clear hb3))
      obtain ⟨hraw4, hm4⟩ := eight_set (s2 := s2) (HRAW.out.block (HB3.out.block p hpl))
      obtain ⟨w4, hw4⟩ : ∃ w4, w4 = (((((((w3.setCell ⟨p, 1, none⟩ (.int .u32 (s2.a : Nat))).setCell ⟨p, 2, none⟩ (.int .u32 (s2.b : Nat))).setCell ⟨p, 3, none⟩ (.int .u32 (s2.c : Nat))).setCell ⟨p, 4, none⟩ (.int .u32 (s2.d : Nat))).setCell ⟨p, 5, none⟩ (.int .u32 (s2.e : Nat))).setCell ⟨p, 6, none⟩ (.int .u32 (s2.f : Nat))).setCell ⟨p, 7, none⟩ (.int .u32 (s2.g : Nat))).setCell ⟨p, 8, none⟩ (.int .u32 (s2.h : Nat)) := ⟨_, rfl⟩
      rw [← hw4]
      rw [← hw4] at hraw4 hm4
      have hmv4 : Mv (fun k => k = p) w w4 := (hmv2.trans (Mv.of_below (show Below w2.heap.size w2 w3 from ⟨HB3.out.os, HB3.out.tape, HB3.out.output, HB3.out.size, HB3.out.block⟩) (fun k => k = p)) (fun _ _ h => h)).trans hm4 (fun _ _ h => h)
      have hy4 : Rd w4 A (ys.map Bv) := Mv.rd1 hmv4 hy (fun h0 k e => hA (by rw [List.length_map, HN.out] at h0; exact h0) k e)
      clear hm4 hw4 k1 k2 k3 k4 k5 k6 k7 k8 z1 z2 z3 z4 z5 z6 z7 z8 c1 c2 c3 c4 c5 c6 c7 c8 fz hy2 hrr
      go_wp2_with (first
        | (refine wpList_slice_any (o := ⟨some 47, _, _, _, _, _⟩) ?_ 28 (.tmp 45) (some (.tmp 46)) none ?_ 5 Tryd.underlying28 (by kernel_rfl) A n ca (64 - d) n ?_ ?_ ?_ hnn hc ?_; rfl; rfl; rfl; exact .inl rfl; exact .inr ⟨rfl, rfl⟩; intro A1 hA1 hrd1)
        | fail)
      have hd1' := hrd1 _ (by rw [List.length_map, HN.out]; exact hc) hy4
      rw [← List.map_drop] at hd1'
      have he : blocksS iv ((xs.length + (64 - d)) / 64) (xs ++ ys) = s2 := by
        have hdd := HDD.out
        rw [show (xs.length + (64 - d)) / 64 = xs.length / 64 + 1 from by omega, blocksS_succ, blocksS_append _ _ _ _ (by omega), HST.out, HS2.out]
        refine (blockS_eq ?_ _).symm
        rw [← HR2.out, HRT.out, List.drop_append_of_le_length (by omega), List.take_append, List.take_append]
        have hl : (xs.drop (64 * (xs.length / 64))).length = d := by rw [List.length_drop]; omega
        rw [hl, List.take_take, Nat.min_self]
      have HE := Lib.hid he; clear he
      go_loopw [1] (fun v wr => ∃ (j : Nat) (A' : Option Addr) (c' : Nat), (xs.length + j) % 64 = 0 ∧ j ≤ n ∧ n - j ≤ c' ∧ c' ≤ 9223372036854775807 ∧ v = .slice A' (n - j) c' ∧ A'.map (·.block) = A.map (·.block) ∧ Rd wr A' ((ys.drop j).map Bv)
          ∧ (∃ R', HashRaw wr p (blocksS iv ((xs.length + j) / 64) (xs ++ ys)) R' (xs.length + n)) ∧ Mv (fun k => k = p) w wr) (fun v _ => match v with | .slice _ m _ => m | _ => 0)
      case atStart => exact ⟨64 - d, A1, ca - (64 - d), by have := HDD.out; omega, hnn, by omega, by omega, rfl, hA1, hd1', ⟨R2, by rw [HE.out]; exact hraw4⟩, hmv4⟩
      case round =>
        clear c73 f73 hd1' hrd1 hA1 hraw4 hmv4 hsl hlt hnn hde
        obtain ⟨j, A', c', hj, hjn, hjc, hc', rfl, hbl, hrd', ⟨R', hraw⟩, hmv⟩ := hrel
        have ht' := AddsMet.moved HT.out hmv hne
        have hlen : ((ys.drop j).length : Nat) = n - j := by rw [List.length_drop, HN.out]
        by_cases hlt : 64 ≤ n - j
        · have hok : (blocksS iv ((xs.length + j) / 64) (xs ++ ys)).Ok := blocksS_ok iv_ok _ _
          have hstep : blockS (blocksS iv ((xs.length + j) / 64) (xs ++ ys)) (ys.drop j) = blocksS iv ((xs.length + (j + 64)) / 64) (xs ++ ys) := by
            rw [show (xs.length + (j + 64)) / 64 = (xs.length + j) / 64 + 1 from by omega, blocksS_succ, show 64 * ((xs.length + j) / 64) = xs.length + j from by omega]
            rw [drop_past]
          generalize blocksS iv ((xs.length + j) / 64) (xs ++ ys) = st at *
          have HST := Lib.hid hstep; clear hstep
          have HRAX := Lib.hid hraw; clear hraw
          have HLEN := Lib.hid hlen; clear hlen
          have HT' := Lib.hid ht'; clear ht'
          have HJ := Lib.hid hj; clear hj
          have HBL := Lib.hid hbl; clear hbl
          obtain ⟨sl, hsl⟩ : ∃ sl, sl = stC st := ⟨_, rfl⟩
          have HSL := Lib.hid hsl; clear hsl
          go_wp2_with (first
            | (refine wpList_load_agg (o := ⟨some 55, _, _, _, _, _⟩) ?_ 49 (.tmp 54) ?_ p 1 ?_ sl ?_ ?_ ?_ ?_; rfl; rfl; rfl; kernel_rfl; (rw [HSL.out]; kernel_rfl); (rw [HSL.out]; intro i v hv; rw [HRAX.out.cell, hashC_state _ _ _ i (by have := (List.getElem?_eq_some_iff.1 hv).1; exact this), ← stC_get _ i (by have := (List.getElem?_eq_some_iff.1 hv).1; exact this)]; exact hv))
            | fail)
          rw [HSL.out]
          refine (mixed_any wr st hok A' c' (n - j) (ys.drop j) HT'.out HLEN.out hrd' hlt (by omega)).mono ?_
          rintro e w1 ⟨rfl, hb1⟩
          have hr1 := HRAX.out.block (hb1.block p HRAX.out.lt)
          have HR1 := Lib.hid hr1; clear hr1
          obtain ⟨s2, hs2⟩ : ∃ s2, s2 = stC (blockS st (ys.drop j)) := ⟨_, rfl⟩
          have hs2' : stV (blockS st (ys.drop j)) = .agg s2.toArray := by rw [hs2]; rfl
          rw [hs2']
          have HS2 := Lib.hid hs2; clear hs2 hs2'
          go_wp2_with (first
            | (refine wpList_store_agg (o := ⟨none, _, _, _, _, _⟩) ?_ 49 (.tmp 59) (.tmp 57) ?_ p 1 s2 ?_ ?_ 53 (hashC st R' (xs.length + n)).toArray HR1.out.1 ?_ ?_ ?_ ?_; rfl; rfl; rfl; rfl; (rw [HS2.out]; kernel_rfl); (rw [HS2.out, List.size_toArray, hashC_length HR1.out.2]; show 1 + 8 ≤ 74; decide); (rw [HS2.out]; intro v hv; simp only [stC, List.mem_cons, List.not_mem_nil, or_false] at hv; rcases hv with rfl | rfl | rfl | rfl | rfl | rfl | rfl | rfl <;> rfl); intro w2 hg2 hm2 hs2)
            | (refine wpList_slice_any (o := ⟨some 61, _, _, _, _, _⟩) ?_ 28 (.tmp 60) (some (.const (.int .i64 64))) none ?_ 5 Tryd.underlying28 (by kernel_rfl) A' (n - j) c' 64 (n - j) ?_ ?_ ?_ hlt hjc ?_; rfl; rfl; rfl; exact .inl rfl; exact .inr ⟨rfl, rfl⟩; intro A2 hA2 hrd2)
            | fail)
          go_roundw
          case rel =>
            have hrw : Rd w2 A' ((ys.drop j).map Bv) := Mv.rd1 hm2 (hrd'.below hb1) (fun h0 k e => by rw [List.length_map, HLEN.out] at h0; rw [HBL.out] at e; exact hA (by omega) k e)
            have hd := hrd2 _ (by rw [List.length_map, HLEN.out]; exact hjc) hrw
            rw [← List.map_drop, List.drop_drop] at hd
            refine ⟨j + 64, A2, c' - 64, by have := HJ.out; omega, by omega, by omega, by omega, by rw [show n - (j + 64) = n - j - 64 from by omega], by rw [hA2, HBL.out], hd, ⟨R', ?_, HR1.out.2⟩, (Mv.trans hmv (Mv.of_below hb1 _) (fun _ _ h => h)).trans hm2 (fun _ _ h => h)⟩
            rw [hg2, HS2.out, hashC_setState HR1.out.2, HST.out]
          case measure => simp; omega
        · have hjd : n - j < 64 := by omega
          have HRAX := Lib.hid hraw; clear hraw
          have HLEN := Lib.hid hlen; clear hlen
          have HT' := Lib.hid ht'; clear ht'
          have HJ := Lib.hid hj; clear hj
          have HBL := Lib.hid hbl; clear hbl
          go_wp2_with (first
            | (refine wpList_copy_mv (o := ⟨some 67, _, _, _, _, _⟩) ?_ (.tmp 65) (.tmp 66) 28 28 ?_ 5 Tryd.underlying28 (by kernel_rfl) (some ⟨p, 9, none⟩) A' 64 64 (n - j) c' ?_ ?_ p 9 (hashC (blocksS iv ((xs.length + j) / 64) (xs ++ ys)) R' (xs.length + n)).toArray 53 HRAX.out.1 ((ys.drop j).map Bv) ?_ ?_ hrd' ?_ ?_ ?_; rfl; rfl; rfl; rfl; (rw [List.length_map, HLEN.out]; exact (Nat.min_eq_left (by omega)).symm); (intro _; rfl); (rw [List.length_map, HLEN.out, List.size_toArray, hashC_length HRAX.out.2]; omega); (intro v hv; obtain ⟨x, _, rfl⟩ := List.mem_map.1 hv; rfl); intro w2 hg2 hm2 hs2)
            | fail)
          go_end0
          exact ⟨rfl, hash_end HN.out HJ.out hjn hjd HRAX.out.2 hg2, hmv.trans hm2 (fun _ _ h => h)⟩
end
end
end Go.Proofs.YtgpmghnemhngeaaDoor
