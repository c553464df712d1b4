/-
  The plain answers' SHA-256.
-/
import Derived.Test.YtleppphcjncfhaaDoorRk
import Derived.Test.YtleppphcjncfhaaDoorJoin
namespace Go.Proofs.YtleppphcjncfhaaDoor
set_option linter.unusedVariables false
set_option linter.unusedSimpArgs false
open Go.RowKit

theorem join_two_at (w : World) (A B : Option Addr) (ca cb la lb : Nat) (xs ys zs : List UInt8) (hz : xs ++ ys = zs) (hla : xs.length = la) (hlb : ys.length = lb) (hx : Rd w A (xs.map Bv)) (hy : Rd w B (ys.map Bv)) (hl : la + lb ≤ 140737488351232) :
    Calls Tryd.prog 17 #[.slice (some ⟨w.heap.size, 0, none⟩) 2 2] (w.alloc (.cells #[.slice A la ca, .slice B lb cb] 28)) fun e w' =>
      ∃ v, e = .returned v ∧ w'.ownsRow w.heap.size 5 1 v (la + lb) (zs.map Bv) ∧ Below w.heap.size w w' := by
  subst hz hla hlb
  refine (join_two_own w A B ca cb xs ys hx hy hl).mono ?_
  rintro e w' ⟨v, rfl, h1, h2⟩
  rw [List.length_append] at h1
  exact ⟨v, rfl, h1.lower (by omega), h2⟩
theorem run_slice_ev {P : Program} (ty e : TypeId) (A : Option Addr) (n c l h : Nat) (lo hi : Option Value) (hu : P.underlying ty = some (.slice e)) (hs : (P.info? e).map (·.size) = some 1)
    (hlo : lo = some (.int .i64 (l : Nat)) ∨ lo = none ∧ l = 0) (hhi : hi = some (.int .i64 (h : Nat)) ∨ hi = none ∧ h = n) (hl : l ≤ h) (hh : h ≤ c) :
    ∃ A', (∀ w : World, (Instr.sliceAt ty (.slice A n c) lo hi none).run P w = .ok (.slice A' (h - l) (c - l)) w) ∧ A'.map (·.block) = A.map (·.block) ∧ ∀ (w : World) (vs : List Value), vs.length ≤ c → Rd w A vs → Rd w A' (vs.drop l) := by
  refine ⟨if c = l then A else A.map (·.add l), fun w => ?_, ?_, fun w vs hv hr => ?_⟩
  · cases hq : P.info? e with
    | none => simp [hq] at hs
    | some i =>
      have hsz : i.size = 1 := by simpa [hq] using hs
      have b1 := run_bound (P := P) w l h
      have b2 := run_bound (P := P) w h c
      rcases hlo with rfl | ⟨rfl, rfl⟩ <;> rcases hhi with rfl | ⟨rfl, rfl⟩ <;>
        simp [Instr.sliceAt, Instr.slice, Instr.sliceBounds, run_underlying hu, sizeOf, typeInfo, hq, hsz, b1, b2, hl, hh]
  · split
    · rfl
    · cases A with
      | none => rfl
      | some ad => simp only [Option.map_some, Addr.add]; split <;> rfl
  · split
    · rename_i e1
      rw [List.drop_eq_nil_of_le (by omega)]
      exact Rd.nil _ _
    · exact hr.drop l
theorem wpList_slice_ev {P : Program} {w : World} {ops : Array Oper} {rest : List Oper} {o : Oper} {a : Act} {Q : Exit → Act → World → Prop} (hgd : o.guard = none) (ty : TypeId) (x : Operand) (lo hi : Option Operand)
    (ho : o.op = .slice ty x lo hi none) (e : TypeId) (hu : P.underlying ty = some (.slice e)) (hs : (P.info? e).map (·.size) = some 1) (A : Option Addr) (n c l h : Nat) (hx : a.eval x = .slice A n c)
    (hlo : lo.map a.eval = some (.int .i64 (l : Nat)) ∨ lo = none ∧ l = 0) (hhi : hi.map a.eval = some (.int .i64 (h : Nat)) ∨ hi = none ∧ h = n) (hl : l ≤ h) (hh : h ≤ c)
    (hK : ∀ A', A'.map (·.block) = A.map (·.block) → (∀ (w : World) (vs : List Value), vs.length ≤ c → Rd w A vs → Rd w A' (vs.drop l)) → wpList P ops Q rest (a.put o.dst (.slice A' (h - l) (c - l))) w) : wpList P ops Q (o :: rest) a w := by
  obtain ⟨A', hr, hbl, hv⟩ := run_slice_ev (P := P) ty e A n c l h (lo.map a.eval) (hi.map a.eval) hu hs (by rcases hlo with h | ⟨rfl, h⟩; exact .inl h; exact .inr ⟨rfl, h⟩) (by rcases hhi with h | ⟨rfl, h⟩; exact .inl h; exact .inr ⟨rfl, h⟩) hl hh
  refine wpList_plain hgd fun K hK' => ?_
  unfold Oper.wp
  simp only [execOp, ho, hx, Option.map_none, Sem.run_bind, Sem.run_pure, hr, Result.andThen_ok]
  exact hK' _ _ (hK A' hbl hv)
/-- What fills up, before its number. -/
def padZ (n j : Nat) (xs : List UInt8) : List UInt8 := xs ++ 128 :: List.replicate j 0
theorem padZ_length (n j : Nat) (xs : List UInt8) (h : xs.length = n) : (padZ n j xs).length = n + 1 + j := by simp [padZ, h]; omega
theorem padZ_succ (n j : Nat) (xs : List UInt8) : (padZ n j xs).map Bv ++ [Value.int .u8 0] = (padZ n (j + 1) xs).map Bv := by
  have e : padZ n (j + 1) xs = padZ n j xs ++ [0] := by simp [padZ, List.replicate_succ']
  rw [e, List.map_append]; rfl
theorem padZ_full (n : Nat) (xs : List UInt8) : padZ n (zerosN n) xs ++ big8 (8 * n) = xs ++ padS n := by simp [padZ, padS]
theorem out_step (s : St) (hs : s.Ok) (i : Nat) (h : i < 8) : (outS s).take (4 * i) ++ (big8 (s.at i)).drop 4 = (outS s).take (4 * (i + 1)) := by
  have e : (big8 (s.at i)).drop 4 = ((outS s).drop (4 * i)).take 4 := by
    refine List.ext_getElem? fun k => ?_
    rw [List.getElem?_drop, List.getElem?_take, List.getElem?_drop]
    by_cases hk : k < 4
    · rw [if_pos hk, outS_get s (by omega), List.getElem?_eq_getElem (by rw [big8_length]; omega), big8_get _ _ (by omega)]
      congr 2
      unfold outB
      rw [show (4 * i + k) / 4 = i from by omega, show (4 * i + k) % 4 = k from by omega, show 7 - (4 + k) = 3 - k from by omega]
    · rw [if_neg hk, List.getElem?_eq_none (by rw [big8_length]; omega)]
  rw [e, show 4 * (i + 1) = 4 * i + 4 from by omega, List.take_add]
section
set_option maxHeartbeats 1600000
set_option maxRecDepth 100000
theorem rsum_any (w : World) (A : Option Addr) (ca n : Nat) (xs : List UInt8) (hn : xs.length = n) (hx : Rd w A (xs.map Bv)) (hl : n ≤ 100000000) :
    Calls Tryd.prog 16 #[.slice A n ca] w fun e w' => ∃ v, e = .returned v ∧ w'.ownsRow w.heap.size 5 1 v 32 ((sha xs).map Bv) ∧ Below w.heap.size w w' := by
  obtain ⟨i0, hi, hz0, hz1, hz2⟩ := info_parts infoU8
  have hb0 := (Below.refl _ w).alloc (Nat.le_refl _) (.cells ([128].map Bv).toArray 5)
  have hj := join_two_at (w.alloc (.cells ([128].map Bv).toArray 5)) A (some ⟨w.heap.size, 0, none⟩) ca 1 n 1 xs [128] (padZ n 0 xs) rfl hn rfl (hx.alloc _) (rd_lit w [128] 5) (by omega)
  rw [World.size_alloc] at hj
  have HJ := Lib.hid hj; clear hj
  have HN := Lib.hid hn; clear hn
  have HX := Lib.hid hx; clear hx
  obtain ⟨z, hz⟩ : ∃ z, z = zerosN n := ⟨_, rfl⟩
  have hz64 : z < 64 := by rw [hz]; unfold zerosN; omega
  have hzm : (n + 1 + z) % 64 = 56 := by rw [hz]; unfold zerosN; omega
  have hzl : ∀ j, j < z → (n + 1 + j) % 64 ≠ 56 := by intro j hj; rw [hz] at hj; unfold zerosN at hj; omega
  have HZ := Lib.hid hz; clear hz
  have HZL := Lib.hid hzl; clear hzl
  go_enter Tryd.func16, Tryd.ntmps16
  go_wp2_with fail
  refine HJ.out.mono ?_
  rintro e w1 ⟨v1, rfl, own1, hb1⟩
  have hb1' := hb0.trans (hb1.mono (by omega))
  have own1' := own1.lower (base' := w.heap.size) (by omega)
  clear hb1 own1 hb0 HJ
  go_wp2
  go_loopw [3] (fun v wr => ∃ j : Nat, j ≤ z ∧ wr.ownsRow w.heap.size 5 1 v (n + 1 + j) ((padZ n j xs).map Bv) ∧ Below w.heap.size w wr) (fun v _ => match v with | .slice _ m _ => n + 1 + z - m | _ => 0)
  case atStart => exact ⟨0, by omega, own1', hb1'⟩
  case round =>
    clear own1' hb1'
    obtain ⟨j, hj, hown, hb⟩ := hrel
    obtain ⟨A2, c2, rfl, rd2, hA2, hn2, hm2⟩ := own_rd hown
    unfold maxLen at hm2
    by_cases hlt : j < z
    · have hmod := HZL.out j hlt
      have hne : (((n : Int) + 1 + (j : Int)) % 64 != 56) = true := by simp; omega
      have hwb := hb.size
      have hown2 : (wr.alloc (.cells #[.int .u8 0] 5)).ownsRow w.heap.size 5 1 (.slice A2 (n + 1 + j) c2) (n + 1 + j) ((padZ n j xs).map Bv) := own_moved hown (fun g hg => heap_alloc_old _ _ (hown.lt g hg).2)
      have hrd0 : Rd (wr.alloc (.cells #[.int .u8 0] 5)) (some ⟨wr.heap.size, 0, none⟩) [.int .u8 0] := rd_row' wr [.int .u8 0] 5
      have hlo := fun (k : Nat) h => (hown.lt k h).1
      have HO2 := Lib.hid hown2; clear hown2
      have HR0 := Lib.hid hrd0; clear hrd0
      clear hown rd2
      go_wp2_with (first
        | (at_builtin; go_must (refine wpList_append_rd rfl _ _ 28 rfl w.heap.size 5 i0 (.int .u8 0) 1 Tryd.underlying28 hi hz0 hz1 hz2 rfl _ _ _ rfl HO2.out (some ⟨wr.heap.size, 0, none⟩) 1 [.int .u8 0] rfl HR0.out (by simp [Value.oneCell']) (by unfold maxLen; simp; omega) (by simp; omega) (by rw [World.size_alloc]; omega) ?_; intro v' w2 hown' hgrow))
        | fail)
      go_roundw
      case rel =>
        refine ⟨j + 1, by omega, ?_, (hb.alloc hwb _).grown hgrow (by rw [World.size_alloc]; omega) hlo⟩
        rw [← padZ_succ]
        exact hown'
      case measure =>
        rcases hown'.2 with ⟨rfl, h0⟩ | ⟨g, cap, cur, rfl, _⟩
        · simp at h0
        · simp; omega
    · obtain rfl : j = z := by omega
      have hne : (((n : Int) + 1 + (j : Int)) % 64 != 56) = false := by simp; omega
      have hbig := big_any wr (8 * n) (by omega)
      have hp := padZ_full n xs
      rw [← HZ.out] at hp
      have HB := Lib.hid hbig; clear hbig
      have HP := Lib.hid hp; clear hp
      have HOW := Lib.hid hown; clear hown
      have e8 : ((8 * n : Nat) : Int) = 8 * (n : Int) := by omega
      rw [e8] at HB
      clear e8
      go_wp2_with fail
      refine HB.out.mono ?_
      rintro e w2 ⟨v2, rfl, own2, hb2⟩
      obtain ⟨A3, c3, rfl, rd3, hA3, hn3, hm3⟩ := own_rd own2
      have hrd2 := rd2.below hb2
      have hb2' := hb.trans (hb2.mono hb.size)
      have hpl := padZ_length n j xs HN.out
      have hj2 := join_two_at w2 A2 A3 c2 c3 (n + 1 + j) 8 _ _ _ HP.out hpl (big8_length _) hrd2 rd3 (by omega)
      have hfull : (xs ++ padS n).length = n + 1 + j + 8 := by rw [← HP.out, List.length_append, hpl, big8_length]
      have HJ2 := Lib.hid hj2; clear hj2
      clear own2 rd3 hrd2 rd2 hb2 hb HB hpl hA2 hA3
      go_wp2_with fail
      refine HJ2.out.mono ?_
      rintro e w3 ⟨v3, rfl, own3, hb3⟩
      obtain ⟨A4, c4, rfl, rd4, hA4, hn4, hm4⟩ := own_rd own3
      unfold maxLen at hm4
      have hb3' := hb2'.trans (hb3.mono hb2'.size)
      clear own3 hb3 hb2' HJ2 hm3 hn3 hn2 hm2
      go_wp2
      obtain ⟨M, hM⟩ : ∃ M, M = n + 1 + j + 8 := ⟨_, rfl⟩
      have hM64 : M % 64 = 0 := by omega
      rw [← hM] at hn4 hfull ⊢
      have hcells : ((w3.alloc (.cells (stC iv).toArray 54)).heap[w3.heap.size]?) = some (.cells (stC iv).toArray 54 (0, 0)) := heap_alloc_new w3 _
      have hrd4 := rd4.alloc (.cells (stC iv).toArray 54)
      have hoff : 0 < M → ∀ k, A4.map (·.block) = some k → k ≠ w3.heap.size := fun h0 k e => by
        have := rd4.lt (by rw [List.length_map, hfull]; exact h0) k e
        omega
      have hb4 := hb3'.alloc hb3'.size (.cells (stC iv).toArray 54)
      have hz4 : (w3.alloc (.cells (stC iv).toArray 54)).heap.size = w3.heap.size + 1 := by simp
      have hq : w.heap.size ≤ w3.heap.size := hb3'.size
      obtain ⟨w4, hw4⟩ : ∃ w4, w4 = w3.alloc (.cells (stC iv).toArray 54) := ⟨_, rfl⟩
      rw [← hw4] at hcells hrd4 hb4 hz4
      change Code.wp _ _ _ _ (w3.alloc (.cells (stC iv).toArray 54))
      rw [← hw4]
      clear hw4 rd4 hb3'
      generalize w3.heap.size = q at *
      obtain ⟨fl, hfl⟩ : ∃ fl, fl = xs ++ padS n := ⟨_, rfl⟩
      rw [← hfl] at hfull hrd4
      have HFL := Lib.hid hfl; clear hfl
      have HFU := Lib.hid hfull; clear hfull
      have HC4 := Lib.hid hcells; clear hcells
      have HRD4 := Lib.hid hrd4; clear hrd4
      have HOFF := Lib.hid hoff; clear hoff
      have HMM := Lib.hid hM; clear hM
      clear HP HOW HZL HX hne hzm hi hz0 hz1 hz2
      go_loopw [3] (fun v wr => ∃ (i : Nat) (A' : Option Addr) (c' : Nat), 64 * i ≤ M ∧ v = .slice A' (M - 64 * i) c' ∧ M - 64 * i ≤ c' ∧ c' ≤ 9223372036854775807 ∧ A'.map (·.block) = A4.map (·.block) ∧ Rd w4 A' ((fl.drop (64 * i)).map Bv)
        ∧ wr.heap[q]? = some (.cells (stC (blocksS iv i fl)).toArray 54 (0, 0)) ∧ Mv (fun k => k = q) w4 wr) (fun v _ => match v with | .slice _ m _ => m | _ => 0)
      case atStart => exact ⟨0, A4, c4, by omega, rfl, by omega, hm4, rfl, HRD4.out, by rw [blocksS_zero]; exact HC4.out, Mv.refl _ _⟩
      case round =>
        obtain ⟨i, A', c', him, rfl, hic, hcc, hbl, hrd, hst, hmv⟩ := hrel
        by_cases hlt : 0 < M - 64 * i
        · have h64 : 64 ≤ M - 64 * i := by omega
          have hok : (blocksS iv i fl).Ok := blocksS_ok iv_ok _ _
          have hstep := blocksS_succ iv i fl
          have hdl : ((fl.drop (64 * i)).take 64).length = 64 := by rw [List.length_take, List.length_drop, HFU.out]; omega
          have hbe : blockS (blocksS iv i fl) ((fl.drop (64 * i)).take 64) = blocksS iv (i + 1) fl := by
            rw [hstep]; exact blockS_eq (by rw [List.take_take, Nat.min_self]) _
          clear hstep
          have hrw : Rd wr A' ((fl.drop (64 * i)).map Bv) := Mv.rd1 hmv hrd (fun h0 k e => by rw [hbl] at e; exact HOFF.out (by omega) k e)
          have hrt := hrw.bytes_take 64
          generalize hsi : blocksS iv i fl = st at *
          clear hsi
          have c0 := cell_blk hst 0
          have c1 := cell_blk hst 1
          have c2 := cell_blk hst 2
          have c3 := cell_blk hst 3
          have c4 := cell_blk hst 4
          have c5 := cell_blk hst 5
          have c6 := cell_blk hst 6
          have c7 := cell_blk hst 7
          simp [stC] at c0 c1 c2 c3 c4 c5 c6 c7
          have hc64 : (64 : Int) ≤ (c' : Int) := by omega
          have hc64n : 64 ≤ c' := by omega
          have HBE := Lib.hid hbe; clear hbe
          have HDL := Lib.hid hdl; clear hdl
          have HRT := Lib.hid hrt; clear hrt
          have HST := Lib.hid hst; clear hst
          have HRD := Lib.hid hrd; clear hrd
          have HRW := Lib.hid hrw; clear hrw
          have HBL := Lib.hid hbl; clear hbl
          go_wp2
          go_still_tail 3, (by kernel_rfl)
          change wpList _ _ _ _ _ wr.drew
          have hmd : Mv (fun k => k = q) w4 wr.drew := hmv.drew
          have hsd : wr.drew.heap[q]? = some (.cells (stC st).toArray 54 (0, 0)) := HST.out
          have htd : Rd wr.drew A' (((fl.drop (64 * i)).take 64).map Bv) := HRT.out
          have hwd : Rd wr.drew A' ((fl.drop (64 * i)).map Bv) := HRW.out
          have HSD := Lib.hid hsd; clear hsd
          have HTD := Lib.hid htd; clear htd
          have HWD := Lib.hid hwd; clear hwd
          clear HST HRT HRW hmv c0 c1 c2 c3 c4 c5 c6 c7
          generalize wr.drew = wd at *
          go_wp2_with fail
          refine (rblock_any wd st hok A' c' 64 _ HDL.out HTD.out (by decide) hc64n hcc (stC st) rfl).mono ?_
          rintro e w5 ⟨rfl, hb5⟩
          rw [HBE.out]
          have hq5 := (hb5.block q (blk_lt HSD.out)).trans HSD.out
          have hm5 : Mv (fun k => k = q) w4 w5 := hmd.trans (Mv.of_below hb5 (fun k => k = q)) (fun _ _ h => h)
          obtain ⟨s2, hs2⟩ : ∃ s2, s2 = stC (blocksS iv (i + 1) fl) := ⟨_, rfl⟩
          have hs2n : s2.length = 8 := by rw [hs2]; rfl
          have hs2o : ∀ v ∈ s2, v.oneCell' = true := by rw [hs2]; exact stC_one _
          have hsv : stV (blocksS iv (i + 1) fl) = .agg s2.toArray := by rw [hs2]; rfl
          rw [hsv]
          have HS2 := Lib.hid hs2; clear hs2 hsv
          have HS2N := Lib.hid hs2n; clear hs2n
          have HS2O := Lib.hid hs2o; clear hs2o
          have HQ5 := Lib.hid hq5; clear hq5
          have hicn : M - 64 * i ≤ c' := hic
          clear hb5 hmd HSD HTD
          go_wp2_with (first
            | (refine wpList_store_agg (o := ⟨none, _, _, _, _, _⟩) ?_ 54 (.tmp 4) (.tmp 33) ?_ q 0 s2 ?_ ?_ 54 _ HQ5.out ?_ ?_ HS2O.out ?_; rfl; rfl; rfl; rfl; (rw [HS2N.out]; kernel_rfl); (rw [HS2N.out]; exact Nat.le_refl 8); intro w6 hg6 hm6 hs6)
            | (refine wpList_slice_ev (o := ⟨some 35, _, _, _, _, _⟩) ?_ 28 (.tmp 34) (some (.const (.int .i64 64))) none ?_ 5 Tryd.underlying28 (by kernel_rfl) A' (M - 64 * i) c' 64 (M - 64 * i) ?_ ?_ ?_ h64 hicn ?_; rfl; rfl; rfl; exact .inl rfl; exact .inr ⟨rfl, rfl⟩; intro A9 hA9 hrd9)
            | fail)
          go_roundw
          case rel =>
            refine ⟨i + 1, A9, c' - 64, by omega, by rw [show M - 64 * (i + 1) = M - 64 * i - 64 from by omega], by omega, by omega, by rw [hA9, HBL.out], ?_, ?_, hm5.trans hm6 (fun _ _ h => h)⟩
            · have h9 := hrd9 w4 _ (by rw [List.length_map, List.length_drop, HFU.out]; exact hicn) HRD.out
              rw [← List.map_drop, List.drop_drop] at h9
              exact h9
            · rw [hg6, spl_state _ _ HS2N.out, HS2.out]
          case measure => simp; omega
        · have hi0 : M / 64 = i := by omega
          have hsha : sha xs = outS (blocksS iv i fl) := by
            unfold sha
            rw [HN.out, ← HFL.out, ← hi0, HMM.out]
            have := HZ.out
            congr 2
            omega
          have hok : (blocksS iv i fl).Ok := blocksS_ok iv_ok _ _
          have hwr : Below w.heap.size w wr := hb4.trans (hmv.belowB (by omega) (fun k hk e => by omega))
          have hqw : q < wr.heap.size := blk_lt hst
          generalize blocksS iv i fl = st at *
          have hWT : WordsAt wr q 54 8 8 (fun i => st.at i) := ⟨_, hst, rfl, fun i hi => by have := stC_get st i hi; simpa using this⟩
          have HSHA := Lib.hid hsha; clear hsha
          have HWT := Lib.hid hWT; clear hWT
          clear hst hmv hrd hbl hi0 hb4
          go_wp2
          obtain ⟨w9, rfl⟩ : ∃ w9, w9 = wr := ⟨_, rfl⟩
          have hw1 : Below w9.heap.size w9 (w9.alloc (.cells #[] 5)) := (Below.refl _ w9).alloc (Nat.le_refl _) _
          have ho1 : (w9.alloc (.cells #[] 5)).ownsRow w.heap.size 5 1 (.slice (some ⟨w9.heap.size, 0, none⟩) 0 0) (4 * 0) (((outS st).take (4 * 0)).map Bv) := (own_empty w9 5).lower hwr.size
          go_loopw [5, 37] (fun v i wr => ∃ k : Nat, k ≤ 8 ∧ i = .int .i64 k ∧ wr.ownsRow w.heap.size 5 1 v (4 * k) (((outS st).take (4 * k)).map Bv) ∧ Below w9.heap.size w9 wr) (fun _ i _ => 8 - (intOf i).toNat)
          case atStart => exact ⟨0, by omega, rfl, ho1, hw1⟩
          case round =>
            clear ho1 hw1
            obtain ⟨k, hk, rfl, hown, hbq⟩ := hrel
            obtain ⟨A5, c5, rfl, rd5, _, hn5, hm5⟩ := own_rd hown
            by_cases hlt8 : k < 8
            · have hc := (HWT.out.block (hbq.block q hqw)).get hlt8
              have hol : ((outS st).take (4 * k)).length = 4 * k := by rw [List.length_take, outS_length]; omega
              have hbig := big_any wr (st.at k) (by have := hok.at k; omega)
              have hstep := out_step st hok k hlt8
              have hsx := hok.at k
              have hdl : ((big8 (st.at k)).drop 4).length = 4 := by rw [List.length_drop, big8_length]
              have HB := Lib.hid hbig; clear hbig
              have HSTEP := Lib.hid hstep; clear hstep
              have HOL := Lib.hid hol; clear hol
              have HDL := Lib.hid hdl; clear hdl
              generalize st.at k = x at *
              clear hown
              have hwq := hwr.trans (hbq.mono hwr.size)
              go_wp2_with fail
              refine HB.out.mono ?_
              rintro e w7 ⟨v7, rfl, own7, hb7⟩
              obtain ⟨A7, c7, rfl, rd7, _, hn7, hm7⟩ := own_rd own7
              have hrd5 := rd5.below hb7
              have hb7' := hbq.trans (hb7.mono hbq.size)
              have hwq7 := hwq.trans (hb7.mono hwq.size)
              clear own7 hb7 HB rd5
              unfold maxLen at hm7
              go_wp2_with (first
                | (refine wpList_slice_ev (o := ⟨some 46, _, _, _, _, _⟩) ?_ 28 (.tmp 45) (some (.const (.int .i64 4))) none ?_ 5 Tryd.underlying28 (by kernel_rfl) A7 8 c7 4 8 ?_ ?_ ?_ (by decide) hn7 ?_; rfl; rfl; rfl; exact .inl rfl; exact .inr ⟨rfl, rfl⟩; intro A9 hA9 hrd9)
                | fail)
              have hr9 := hrd9 w7 _ (by rw [List.length_map, big8_length]; exact hn7) rd7
              rw [← List.map_drop] at hr9
              have hj := join_two_at w7 A5 A9 c5 (c7 - 4) (4 * k) 4 _ _ _ HSTEP.out HOL.out HDL.out hrd5 hr9 (by omega)
              have HJ := Lib.hid hj; clear hj
              clear hr9 hrd9 rd7 hrd5 hA9
              refine HJ.out.mono ?_
              rintro e w8 ⟨v8, rfl, own8, hb8⟩
              have own8' := own8.lower (base' := w.heap.size) hwq7.size
              have hb8' := hb7'.trans (hb8.mono hb7'.size)
              clear own8 hb8 HJ
              go_wp2
              go_roundw
              case rel => exact ⟨k + 1, by omega, by go_num, own8', hb8'⟩
              case measure => simp [intOf]; omega
            · have hk8 : k = 8 := by omega
              have ht : (outS st).take (4 * k) = outS st := List.take_of_length_le (by rw [outS_length]; omega)
              rw [ht, ← HSHA.out] at hown
              clear ht
              have hwq := hwr.trans (hbq.mono hwr.size)
              have h32 : 4 * k = 32 := by omega
              rw [h32] at hown ⊢
              clear hk8 h32
              go_wp2
              go_ret
              exact ⟨_, rfl, hown, hwq⟩
end
end Go.Proofs.YtleppphcjncfhaaDoor
