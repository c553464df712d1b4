/-
  MatchAlls (P7.2): whether any labels pass any matchers, asked as a Set, too, which keeps them, is the plain answers'. The condition is the library's two tables': they hold what their initialisers lay, which the card ties to the program's text.
-/
import Derived.Test.YtalcbbpghfdeeaaGreatDoorMlw
import Derived.Test.YtalcbbpghfdeeaaGreatDoorMli
import Derived.Test.YtalcbbpghfdeeaaGreatDoorRsm
import Derived.Test.YtalcbbpghfdeeaaGreatDoorRmr
namespace Go.Proofs.YtalcbbpghfdeeaaGreatDoor
set_option linter.unusedVariables false
set_option linter.unusedSimpArgs false
open Go.ChangeMaps (open_string)
open Go.ChangeShapes Go.WideShapes Go.ChangeAt Go.RowKit
section
set_option maxHeartbeats 3200000
set_option maxRecDepth 100000
theorem getP_size {l : List Lb} {N : Nat} (h : ∀ x ∈ l, x.2.size ≤ N) (n : ByteArray) : (getP l n).size ≤ N := by
  unfold getP
  cases hf : l.find? fun x => decide (x.1 = n) with
  | none => exact Nat.zero_le _
  | some x => simpa using h x (List.mem_of_find?_eq_some hf)
theorem shortL_vals {l : List Lb} (h : shortL l = true) : ∀ x ∈ l, x.2.size ≤ 200 := by
  unfold shortL at h
  simp only [Bool.and_eq_true, decide_eq_true_eq, List.all_eq_true] at h
  exact fun x hx => (h.2 x hx).2
/-- A row of matchers, whatever stands in it. -/
def RowM (w : World) (g n : Nat) : Prop := ∃ cur, w.heap[g]? = some (.cells cur 26 (0, 0)) ∧ n * 3 ≤ cur.size
theorem row_of {w : World} {B g n c : Nat} {xs : List Value} (h : w.ownsRow B 26 3 (.slice (some ⟨g, 0, none⟩) n c) n xs) : RowM w g n ∧ B ≤ g := by
  rcases h.2 with ⟨e, _⟩ | ⟨g', cap, cur, e, hB, hg, hnc, hcm, hcs, htk⟩
  · cases e
  · injection e with e1 e2 e3
    injection e1 with e1; injection e1 with e1
    subst e1; subst e3
    exact ⟨⟨cur, hg, by rw [hcs]; exact Nat.mul_le_mul_right 3 hnc⟩, hB⟩
theorem malls_walk (A B : Option Addr) (ca cb : Nat) (l : List Mt') (x : List Lb) (w : World) (hT : Tabs w) (ha : Rd w A (mcells l)) (hy : Rd w B (lcells x)) :
    Calls Tryz.prog 5 #[.slice A l.length ca, .slice B x.length cb] w fun e w' => e = .returned (.bool true) ∧ RowKit.Below w.heap.size w w' := by
  have HLV := Lib.hid (fun (W' : World) (hb : RowKit.Below w.heap.size w W') => mlive_any W' (hT.below hb))
  have HFA := Lib.hid (fun (W' : World) (h : RowKit.Below w.heap.size w W') => mfew_any A ca l W' (ha.below h))
  have HFX := Lib.hid (fun (W' : World) (h : RowKit.Below w.heap.size w W') => short_any B cb x W' (hy.below h))
  have HA := Lib.hid ha; have HY := Lib.hid hy; have HT := Lib.hid hT
  clear ha hy hT
  go_enter Tryz.func5, Tryz.ntmps5
  go_wp2_with fail
  refine (HLV.out w (RowKit.Below.refl _ _)).mono ?_
  rintro e w0 ⟨rfl, hb0⟩
  have HB0 := Lib.hid hb0; clear hb0
  go_wp2_with fail
  refine (HFA.out w0 HB0.out).mono ?_
  rintro e w1 ⟨rfl, hb1⟩
  have HB1 := Lib.hid (HB0.out.trans (hb1.mono HB0.out.size)); clear hb1
  cases hfa : fewL l with
  | false =>
    go_wp2_with fail
    refine (HLV.out w1 HB1.out).mono ?_
    rintro e w4 ⟨rfl, hb4⟩
    have HB4 := Lib.hid (HB1.out.trans (hb4.mono HB1.out.size)); clear hb4
    go_wp2
    go_ret
    exact ⟨rfl, HB4.out⟩
  | true =>
  go_wp2_with fail
  refine (HFX.out w1 HB1.out).mono ?_
  rintro e w3 ⟨rfl, hb3⟩
  have HB3 := Lib.hid (HB1.out.trans (hb3.mono HB1.out.size)); clear hb3
  cases hfx : shortL x with
  | false =>
    go_wp2_with fail
    refine (HLV.out w3 HB3.out).mono ?_
    rintro e w4 ⟨rfl, hb4⟩
    have HB4 := Lib.hid (HB3.out.trans (hb4.mono HB3.out.size)); clear hb4
    go_wp2
    go_ret
    exact ⟨rfl, HB4.out⟩
  | true =>
  obtain ⟨na, sa⟩ := fewL_of hfa
  have nx := shortL_of hfx
  have HXV := Lib.hid (fun n => Nat.le_trans (getP_size (shortL_vals hfx) n) (show (200 : Nat) ≤ 900 by decide))
  have HSA := Lib.hid sa
  clear hfa hfx sa HFA HFX HLV
  have HOE3 := Lib.hid (own_emptyM w3)
  have hba3 : RowKit.Below w3.heap.size w3 (w3.alloc (.cells #[] 26)) := (RowKit.Below.refl _ w3).alloc (Nat.le_refl _) _
  have HBA3 := Lib.hid hba3; clear hba3
  go_wp2_with (first
    | (refine wpList_append_mt rfl (.tmp 23) (.tmp 24) rfl rfl w3.heap.size (.slice (some ⟨w3.heap.size, 0, none⟩) 0 0) [] rfl HOE3.out A ca l rfl (HA.out.below (HB3.out.trans (HBA3.out.mono HB3.out.size))) (by simp; omega) HBA3.out.size ?_
       intro v4 w4 own4 grow4
       have hb4 : RowKit.Below w3.heap.size w3 w4 := HBA3.out.grown grow4 HBA3.out.size (fun k h => (HOE3.out.lt k h).1)
       rw [List.nil_append] at own4
       have HB4 := Lib.hid hb4; have HO4 := Lib.hid own4
       clear hb4 own4 grow4)
    | fail)
  obtain ⟨A4, c4, e4, hr4, -, -⟩ := own_rd_mt HO4.out
  subst e4
  have HB34 := Lib.hid (HB3.out.trans (HB4.out.mono HB3.out.size))
  have HNW := Lib.hid (mnew_any A4 c4 l w4 hr4 (HT.out.below HB34.out) (by omega) (fun m hm => by have := (HSA.out m hm).2; omega))
  have HRR := Lib.hid (fun (W' : World) (h : RowKit.Below w.heap.size w W') => rmright_any A ca l W' (HA.out.below h) (by omega) (fun m hm => by have := HSA.out m hm; omega))
  have HRA := Lib.hid (fun (W' : World) (h : RowKit.Below w.heap.size w W') => rmall_any A ca l B cb x W' (HA.out.below h) (by omega) (fun m hm => by have := HSA.out m hm; omega) (HY.out.below h) (by omega) HXV.out)
  have HMA := Lib.hid (fun (W' : World) (h : RowKit.Below w.heap.size w W') => mall_any A ca l B cb x W' (HA.out.below h) (HT.out.below h) (by omega) (fun m hm => by have := (HSA.out m hm).2; omega) (HY.out.below h) (by omega))
  have HSN := Lib.hid (fun h => set_ne (l := l) h)
  have hne0 : (∃ g, A4 = some ⟨g, 0, none⟩ ∧ w.heap.size ≤ g ∧ RowM w4 g l.length) ∨ l.length = 0 := by
    by_cases hz : l.length = 0
    · exact .inr hz
    · left
      rcases HO4.out.2 with ⟨e, h0⟩ | ⟨g', cap, cur, e, hB, hg, hnc, hcm, hcs, htk⟩
      · exact absurd h0 hz
      · injection e with e1 e2 e3
        subst e1
        exact ⟨g', rfl, Nat.le_trans HB3.out.size hB, cur, hg, by rw [hcs]; exact Nat.mul_le_mul_right 3 hnc⟩
  have HNE0 := Lib.hid hne0
  clear hr4 hne0 HO4 HB4 HOE3 HBA3
  unfold allM at HRA HMA
  generalize rightM l = C at HNW HRR HRA HMA HSN
  refine HNW.out.mono ?_
  intro e w5 ho
  unfold NwOut at ho
  by_cases hc : C = 0
  · rw [if_pos hc] at ho
    subst hc
    obtain ⟨b, rfl, hBb, hset, hb5⟩ := ho
    have hra := HRA.out; have hma := HMA.out
    simp only [decide_true, Bool.true_and] at hra hma
    have h1l := HSN.out rfl
    have HSET := Lib.hid hset
    have hps := fun (W' : World) (h : RowKit.Below w.heap.size w W') (hs : SetIs W' b l) => mmatch_any b l B cb x W' hs h1l (HY.out.below h) (by omega)
    have HB5 := Lib.hid (HB34.out.trans (hb5.mono HB34.out.size))
    have hne5 : (∃ g, A4 = some ⟨g, 0, none⟩ ∧ w.heap.size ≤ g ∧ RowM w5 g l.length) ∨ l.length = 0 := by
      rcases HNE0.out with ⟨g, e1, e2, cur, e3, e4⟩ | h
      · exact .inl ⟨g, e1, e2, cur, (hb5.block g (blk_lt e3)).trans e3, e4⟩
      · exact .inr h
    have HNE5 := Lib.hid hne5; clear hne5
    generalize passesM l x = P at hra hma hps
    have HPS := Lib.hid hps
    have HRA' := Lib.hid hra; have HMA' := Lib.hid hma
    clear hps hset hb5 hra hma HRA HMA HNE0 HNW
    go_wp2_with fail
    go_loopw [33] (fun s33 wr => ∃ k : Nat, s33 = .int .i64 k ∧ k ≤ l.length ∧ Aside (RowKit.Below w.heap.size w wr) ∧ Aside ((∃ g, A4 = some ⟨g, 0, none⟩ ∧ w.heap.size ≤ g ∧ RowM wr g l.length) ∨ l.length = 0) ∧ Aside (SetIs wr b l)) (fun s33 _ => l.length - (intOf s33).toNat)
    case atStart => exact ⟨0, rfl, by omega, HB5.out, HNE5.out, HSET.out⟩
    case round =>
    obtain ⟨k, rfl, hk, BW, HR, HSI⟩ := hrel
    have k0 : (0 : Int) ≤ (k : Int) := by omega
    by_cases hlt : k < l.length
    · have k1 : (k : Int) < (l.length : Int) := by omega
      rcases HR.out with ⟨g, rfl, hgB, cur, hg, hsz⟩ | h0
      rotate_left
      · exact absurd hlt (by omega)
      have HG := Lib.hid hg
      clear hg
      go_wp2_with (first
        | (refine wpList_store_agg (o := ⟨none, _, _, _, _, _⟩) ?_ 26 (.tmp 39) (.tmp 38) ?_ g (k * 3) (mcells [((0 : Int), noneB, noneB)]) ?_ ?_ 26 cur HG.out ?_ ?_ (mcells_one' _) ?_; rfl; rfl; rfl; rfl; kernel_rfl; (show k * 3 + 3 ≤ cur.size; omega); intro w4' hg4 hm4 hs4
           have hb4 : RowKit.Below w.heap.size w w4' := BW.out.trans (hm4.belowB BW.out.size fun k hk e => by omega)
           have HB4' := Lib.hid hb4
           have HR4 := Lib.hid (show RowM w4' g l.length from ⟨_, hg4, by rw [spl_size (by show k * 3 + 3 ≤ cur.size; omega)]; exact hsz⟩)
           have HSI4 := Lib.hid (HSI.out.mvt HG.out hm4)
           clear hb4 hm4 hg4 hs4)
        | fail)
      go_roundw
      case rel => exact ⟨k + 1, by go_num, by omega, (show Aside _ from HB4'.out), (show Aside _ from .inl ⟨g, rfl, hgB, HR4.out⟩), (show Aside _ from HSI4.out)⟩
      case measure => simp [intOf]; omega
    obtain rfl : k = l.length := by omega
    go_wp2_with fail
    refine (HRR.out _ BW.out).mono ?_
    rintro e w6 ⟨rfl, hb6⟩
    have hs6 := HSI.out.below hb6
    have HB6 := Lib.hid (BW.out.trans (hb6.mono BW.out.size)); clear hb6
    have HS6 := Lib.hid hs6; clear hs6
    go_wp2_with fail
    refine (HRA'.out _ HB6.out).mono ?_
    rintro e w7 ⟨rfl, hb7⟩
    have hs7 := HS6.out.below hb7
    have HB7 := Lib.hid (HB6.out.trans (hb7.mono HB6.out.size)); clear hb7
    have HS7 := Lib.hid hs7; clear hs7
    go_wp2_with fail
    refine (HMA'.out _ HB7.out).mono ?_
    rintro e w8 ⟨rfl, hb8⟩
    have hs8 := HS7.out.below hb8
    have HB8 := Lib.hid (HB7.out.trans (hb8.mono HB7.out.size)); clear hb8
    have HS8 := Lib.hid hs8; clear hs8
    have eP : (P == P) = true := by simp
    go_wp2_with fail
    refine (HPS.out _ HB8.out HS8.out).mono ?_
    rintro e w9 ⟨rfl, hb9⟩
    have hs9 := HS8.out.below hb9
    have HB9 := Lib.hid (HB8.out.trans (hb9.mono HB8.out.size)); clear hb9
    have HLI := Lib.hid (mlist_any b l _ hs9 (by omega)); clear hs9
    go_wp2_with fail
    refine HLI.out.mono ?_
    rintro e w10 ⟨A10, c10, rfl, ho10, hb10⟩
    obtain ⟨A11, c11, e11, hr11, -, -⟩ := own_rd_mt ho10
    injection e11 with e1 _ e2
    subst e1; subst e2
    have HB10 := Lib.hid (HB9.out.trans (hb10.mono HB9.out.size)); clear hb10
    have hsm := rsameM_any A10 A c10 ca l l w10 hr11 (HA.out.below HB10.out) (by omega) (by omega)
    rw [decide_eq_true rfl] at hsm
    have HSM := Lib.hid hsm; clear hsm hr11 ho10
    go_wp2_with fail
    refine HSM.out.mono ?_
    rintro e w11 ⟨rfl, n, rfl⟩
    go_wp2
    go_ret
    exact ⟨by simp, below_drewN HB10.out n⟩
  · rw [if_neg hc] at ho
    obtain ⟨rfl, hb5⟩ := ho
    have hc2 : ¬ ((C : Nat) : Int) = 0 := by omega
    have hc3 : (((C : Nat) : Int) == 0) = false := by rw [beq_eq_false_iff_ne]; exact hc2
    have ec : (((C : Nat) : Int) != ((C : Nat) : Int)) = false := by simp
    have hra := HRA.out; have hma := HMA.out
    simp only [decide_eq_false hc, Bool.false_and] at hra hma
    have HRA' := Lib.hid hra; have HMA' := Lib.hid hma
    have HB5 := Lib.hid (HB34.out.trans (hb5.mono HB34.out.size))
    have hne5 : (∃ g, A4 = some ⟨g, 0, none⟩ ∧ w.heap.size ≤ g ∧ RowM w5 g l.length) ∨ l.length = 0 := by
      rcases HNE0.out with ⟨g, e1, e2, cur, e3, e4⟩ | h
      · exact .inl ⟨g, e1, e2, cur, (hb5.block g (blk_lt e3)).trans e3, e4⟩
      · exact .inr h
    have HNE5 := Lib.hid hne5; clear hne5
    clear hra hma HRA HMA HNE0 HNW hb5
    go_wp2_with fail
    go_loopw [33] (fun s33 wr => ∃ k : Nat, s33 = .int .i64 k ∧ k ≤ l.length ∧ Aside (RowKit.Below w.heap.size w wr) ∧ Aside ((∃ g, A4 = some ⟨g, 0, none⟩ ∧ w.heap.size ≤ g ∧ RowM wr g l.length) ∨ l.length = 0)) (fun s33 _ => l.length - (intOf s33).toNat)
    case atStart => exact ⟨0, rfl, by omega, HB5.out, HNE5.out⟩
    case round =>
    obtain ⟨k, rfl, hk, BW, HR⟩ := hrel
    have k0 : (0 : Int) ≤ (k : Int) := by omega
    by_cases hlt : k < l.length
    · have k1 : (k : Int) < (l.length : Int) := by omega
      rcases HR.out with ⟨g, rfl, hgB, cur, hg, hsz⟩ | h0
      rotate_left
      · exact absurd hlt (by omega)
      have HG := Lib.hid hg
      clear hg
      go_wp2_with (first
        | (refine wpList_store_agg (o := ⟨none, _, _, _, _, _⟩) ?_ 26 (.tmp 39) (.tmp 38) ?_ g (k * 3) (mcells [((0 : Int), noneB, noneB)]) ?_ ?_ 26 cur HG.out ?_ ?_ (mcells_one' _) ?_; rfl; rfl; rfl; rfl; kernel_rfl; (show k * 3 + 3 ≤ cur.size; omega); intro w4' hg4 hm4 hs4
           have hb4 : RowKit.Below w.heap.size w w4' := BW.out.trans (hm4.belowB BW.out.size fun k hk e => by omega)
           have HB4' := Lib.hid hb4
           have HR4 := Lib.hid (show RowM w4' g l.length from ⟨_, hg4, by rw [spl_size (by show k * 3 + 3 ≤ cur.size; omega)]; exact hsz⟩)
           clear hb4 hm4 hg4 hs4)
        | fail)
      go_roundw
      case rel => exact ⟨k + 1, by go_num, by omega, (show Aside _ from HB4'.out), (show Aside _ from .inl ⟨g, rfl, hgB, HR4.out⟩)⟩
      case measure => simp [intOf]; omega
    obtain rfl : k = l.length := by omega
    go_wp2_with fail
    refine (HRR.out _ BW.out).mono ?_
    rintro e w6 ⟨rfl, hb6⟩
    have HB6 := Lib.hid (BW.out.trans (hb6.mono BW.out.size)); clear hb6
    go_wp2_with fail
    refine (HRA'.out _ HB6.out).mono ?_
    rintro e w7 ⟨rfl, hb7⟩
    have HB7 := Lib.hid (HB6.out.trans (hb7.mono HB6.out.size)); clear hb7
    go_wp2_with fail
    refine (HMA'.out _ HB7.out).mono ?_
    rintro e w8 ⟨rfl, hb8⟩
    have HB8 := Lib.hid (HB7.out.trans (hb8.mono HB7.out.size)); clear hb8
    go_wp2
    go_ret
    exact ⟨rfl, HB8.out⟩
end

set_option maxRecDepth 100000 in
theorem matchAlls_contract (H : Type) (enc : TypeId × Value → H) (W : World) (base : Nat) (args : Array Value) (ds gs : List (DataW H)) (before : List MemPlace)
    (hval : ∀ (j : Nat) t v, Tryz.f5.params[j]? = some t → args[j]? = some v → Value.okWide Tryz.prog W .any base t v)
    (hW : DataW.Whole enc Tryz.prog Tryz.f5.params.toList Rows.matchAllsSpec.vars false W args.toList ds gs before) (hL : laidMetH Tryz.prog Rows.matchAllsRow.laid W) :
    Calls Tryz.prog 5 args W fun e W' => ∃ v, e = .returned v ∧ Rows.matchAllsSpec.post enc Tryz.prog Tryz.f5 false true false false W args v W' := by
  have hW' := hW
  obtain ⟨p, q, hA0, hV, rfl, hfz, hnd⟩ := hW
  have hA : DataW.TrodAll enc Tryz.prog W 0 (fun _ => true) true Tryz.f5.params.toList args.toList ds p := hA0
  rw [Tryz.params5] at hA hval
  obtain ⟨v0, vs0, d0, ds0, p0, q0, hargs, rfl, rfl, h0, r0⟩ := trodAll_cons hA
  obtain ⟨v1, vs1, d1, ds1, p1, q1, rfl, rfl, rfl, h1, r1⟩ := trodAll_cons r0
  obtain ⟨rfl, rfl, rfl⟩ := trodAll_nil r1
  obtain rfl : args = #[v0, v1] := by cases args; simp_all
  obtain ⟨rfl, rfl⟩ := trodVars_none hV
  obtain ⟨A0, c0, m0, rfl, hm0, hx0, hs0⟩ := open_matchers (hval 0 22 v0 rfl rfl) h0
  obtain ⟨A1, c1, l1, rfl, hm1, hx1, hs1⟩ := open_labels (hval 1 32 v1 rfl rfl) h1
  clear hA0 hA
  unfold maxLen at hm0 hs0
  unfold maxLen at hm1 hs1
  refine (malls_walk A0 A1 c0 c1 m0 l1 W (tabs hL) hx0 hx1).mono fun e W' ⟨he, hg⟩ => ?_
  subst he
  exact ⟨_, rfl, law_end laidOut (by kernel_rfl) (by kernel_rfl) Tryz.underlying4 rfl hW' ⟨rfl, rfl, rfl⟩ hg⟩

theorem matchAlls_met (os : Os) : laidMet Tryz.prog Rows.matchAllsRow.laid ((laidWorld os).forCall (fun _ _ => 0) ⟨#[], #[.slice none 0 0, .slice none 0 0], []⟩).memory :=
  laid_met os _
theorem matchAlls_reads (os : Os) {H : Type} (enc : TypeId × Value → H) : ∃ places, DataW.whole enc Tryz.prog ((laidWorld os).forCall (fun _ _ => 0) ⟨#[], #[.slice none 0 0, .slice none 0 0], []⟩).memory Tryz.f5.params.toList Rows.matchAllsSpec.vars false (#[.slice none 0 0, .slice none 0 0] : Array Value).toList 8 = some ([.nil, .nil], [], places) :=
  ⟨[], by kernel_rfl⟩

set_option maxRecDepth 100000 in
theorem matchAlls_lifted (os : Os) (started : os.Started) (H : Type) (enc : TypeId × Value → H) (F : Stop.Interp) :
    ReturnsInHanded {} Tryz.checked os 5 .any ((OpenSpec.ofChange Rows.matchAllsSpec).preRow enc Tryz.prog Tryz.f5 Rows.matchAllsRow.domain false Rows.matchAllsRow.laid) (((OpenSpec.ofChange Rows.matchAllsSpec).at F).post enc Tryz.prog Tryz.f5 false true false false) := by
  obtain ⟨places, hx⟩ := matchAlls_reads os enc
  refine returnsInHanded_of_row (C := Tryz.checked) (s := OpenSpec.ofChange Rows.matchAllsSpec) ownKn started (by kernel_rfl) Tryz.func5
    (witness_row_at (enc := enc) (C := Tryz.checked) false (laidWorld os) #[.slice none 0 0, .slice none 0 0] rfl (by kernel_rfl) (by kernel_rfl) (by kernel_rfl)
      (OpenSpec.preRow_of_cond 8 hx (by kernel_rfl) (fun k hk => by cases hk) (by kernel_rfl) (matchAlls_met os))) ?_
  intro W base args ds gs before hval hW _ _ _ hL _ _
  exact matchAlls_contract H enc W base args ds gs before hval hW hL

theorem matchAlls_said : Rows.MatchAllsSaid :=
  OpenClaim.holds_of_cond 5 Tryz.f5 rfl rfl rfl rfl rfl rfl rfl ⟨rfl, rfl, rfl, rfl, rfl⟩ rfl rfl rfl rfl rfl (by kernel_rfl) Tryz.func5 (by kernel_rfl)
    (of_decide_eq_true (by kernel_rfl)) (by unfold Func.isWrapper; first | (rw [if_pos (by decide +kernel)]; kernel_rfl) | (rw [if_neg (by decide +kernel)]; exact ⟨rfl, rfl⟩))
    (fun os started H enc _ F => by rw [OpenClaim.pre_eq_preRow]; exact matchAlls_lifted os started H enc F)

theorem matchAlls_plain (f : FuncId) (fn : Func) (hf : Tryz.pinned.checked.prog.funcNamed "manometer/manometerlaw07.MatchAlls" = some f) (hfn : Tryz.pinned.checked.prog.funcs[f]? = some fn) :
    true = Tryz.pinned.checked.prog.looks [] ∧ ∀ (j : Nat) t, fn.params[j]? = some t → Tryz.pinned.checked.prog.wantsStandIn t = false := by
  obtain rfl : f = 5 := Option.some.inj ((show Tryz.prog.funcNamed "manometer/manometerlaw07.MatchAlls" = some 5 by kernel_rfl).symm.trans hf) |>.symm
  obtain rfl : fn = Tryz.f5 := (Option.some.inj (Tryz.func5.symm.trans hfn)).symm
  refine ⟨by kernel_rfl, fun j t ht => ?_⟩
  rw [Tryz.params5] at ht
  have hm : t = 22 ∨ t = 32 := by simpa using Array.mem_of_getElem? ht
  rcases hm with rfl | rfl
  · exact (show Tryz.prog.wantsStandIn 22 = false by kernel_rfl)
  · exact (show Tryz.prog.wantsStandIn 32 = false by kernel_rfl)

theorem matchAlls_card : Rows.MatchAllsCardSaid :=
  Claim7.holds_tied_plain_at .later [] _ _ _ _ matchAlls_said (fun _ h => by cases h) (by kernel_rfl) (fun _ h => by cases h) matchAlls_row_tie rfl ⟨rfl, rfl⟩ (by kernel_rfl) rfl matchAlls_plain (by kernel_rfl)
#print axioms matchAlls_card

end Go.Proofs.YtalcbbpghfdeeaaGreatDoor
