/-
  PostingsAdds (P10.1): whatever series come and go, an index answers as the document says, and has these, by number and by labels. The condition is the library's two tables': they hold what their initialisers lay, which the card ties to the program's text.
-/
import Derived.Test.YtjgappbomohlcaaGreatDoorK01
import Derived.Test.YtjgappbomohlcaaGreatDoorK05
namespace Go.Proofs.YtjgappbomohlcaaGreatDoor
set_option linter.unusedVariables false
set_option linter.unusedSimpArgs false
open Go.ChangeMaps (open_string)
open Go.ChangeShapes Go.WideShapes Go.ChangeAt Go.RowKit
section
set_option maxHeartbeats 6400000
set_option maxRecDepth 100000
theorem two_len {w0 w : World} {xb p : Nat} {T : Nat → Prop} {L M : List Ser} (h : Two w0 w xb p T L M) : Calls Tryz.prog 16 #[.pointer (some ⟨xb, 0, none⟩)] w fun e w' => e = .returned (.int .i64 (L.length : Nat)) ∧ w = w' := by
  obtain ⟨G, S, v, ys, h1, h2, h3, h4, h5, h6⟩ := h.ex
  exact ilen_any h1
theorem two_box {w0 w : World} {xb p : Nat} {T : Nat → Prop} {L M : List Ser} (h : Two w0 w xb p T L M) : ∃ A c, w.cell? ⟨p, 0, none⟩ = some (.slice A M.length c) := by
  obtain ⟨G, S, v, ys, h1, h2, rfl, h4, h5, h6⟩ := h.ex
  obtain ⟨B, cb, hv, -⟩ := own_rd_s h2.row
  subst hv
  have c0 := cell_blk h2.box 0
  simp only [List.getElem?_toArray, List.getElem?_cons_succ, List.getElem?_cons_zero] at c0
  exact ⟨B, cb, by rw [List.length_map]; exact c0⟩
def LabO (w : World) (L : List Ser) (n : Nat) (e : Ending) (w' : World) : Prop := ∃ A c l, l = (labAt L n).getD [] ∧ e = .returned (.tuple #[.slice A l.length c, .bool (labAt L n).isSome]) ∧ Rd w' A (lcells l) ∧ Below w.heap.size w w'
theorem two_labels {w0 w : World} {xb p : Nat} {T : Nat → Prop} {L M : List Ser} (h : Two w0 w xb p T L M) {n : Nat} (hn : n < 18446744073709551616) : Calls Tryz.prog 17 #[.pointer (some ⟨xb, 0, none⟩), .int .u64 (n : Nat)] w (LabO w L n) := by
  obtain ⟨G, S, v, ys, h1, h2, h3, h4, h5, h6⟩ := h.ex
  refine (ilabels_any h1 hn).mono fun e w' ⟨A, c, l, hl, e1, ho, hb⟩ => ?_
  obtain ⟨A', c', e2, hr⟩ := own_rdL ho
  injection e2 with e2
  subst e2
  exact ⟨A, c, l, hl, e1, hr, hb⟩
theorem two_rlabels {w0 w : World} {xb p : Nat} {T : Nat → Prop} {L : List Ser} (h : Two w0 w xb p T L L) {n : Nat} (hn : n < 18446744073709551616) : Calls Tryz.prog 18 #[.pointer (some ⟨p, 0, none⟩), .int .u64 (n : Nat)] w (LabO w L n) := by
  have hwf := h.wf
  obtain ⟨G, S, v, ys, h1, h2, rfl, h4, h5, h6⟩ := h.ex
  exact rlabels_any h2 hwf n hn
theorem two_ref {w0 w : World} {xb p : Nat} {T : Nat → Prop} {L M : List Ser} (h : Two w0 w xb p T L M) (hT : Tabs w0) (A : Option Addr) (c : Nat) (l : List Lb) (hx : Rd w A (lcells l)) (hf : Few l) : Calls Tryz.prog 19 #[.pointer (some ⟨xb, 0, none⟩), .slice A l.length c] w fun e w' => e = .returned (.tuple #[.int .u64 ((refAt L l).getD 0 : Nat), .bool (refAt L l).isSome]) ∧ Below w.heap.size w w' := by
  obtain ⟨G, S, v, ys, h1, h2, h3, h4, h5, h6⟩ := h.ex
  exact iref_any h1 (hT.below h.bel) A c l hx hf
theorem two_rref {w0 w : World} {xb p : Nat} {T : Nat → Prop} {L M : List Ser} (h : Two w0 w xb p T L M) (A : Option Addr) (c : Nat) (l : List Lb) (hx : Rd w A (lcells l)) (hf : Few l) : Calls Tryz.prog 20 #[.pointer (some ⟨p, 0, none⟩), .slice A l.length c] w fun e w' => e = .returned (.tuple #[.int .u64 ((refAt M l).getD 0 : Nat), .bool (refAt M l).isSome]) ∧ Below w.heap.size w w' := by
  obtain ⟨G, S, v, ys, h1, h2, rfl, h4, h5, h6⟩ := h.ex
  exact rref_any h2 A c l hx (by have := hf.1; omega)
theorem padds_walk (A : Option Addr) (c : Nat) (l : List OpP) (n : Nat) (Q : Option Addr) (cq : Nat) (q : List Lb) (w : World) (hT : Tabs w) (hx : Rd w A (l.flatMap opP)) (ho : ∀ o ∈ l, OpIn w o) (hn : n < 18446744073709551616) (hq : Rd w Q (lcells q)) :
    Calls Tryz.prog 3 #[.slice A l.length c, .int .u64 (n : Nat), .slice Q q.length cq] w fun e w' => e = .returned (.bool true) ∧ Below w.heap.size w w' := by
  have HT := Lib.hid hT
  have H1 := Lib.hid (live_any10 w hT)
  have hmu := fun (W : World) (hb : Below w.heap.size w W) => much_any A c l W (hx.below hb) fun o ho' => (ho o ho').below hb
  have hbg := fun (W : World) (hb : Below w.heap.size w W) => big_any Q cq q W (hq.below hb)
  have HX := Lib.hid hx
  have HO := Lib.hid ho
  have HQ := Lib.hid hq
  cases hf : fewOpsB l with
  | false =>
    rw [hf] at hmu
    have HMU := Lib.hid hmu
    clear hT hx ho hmu hf hq hbg
    go_enter Tryz.func3, Tryz.ntmps3
    go_wp2_with (first
      | (go_at_call 11; refine H1.out.mono ?_; rintro e w1 ⟨rfl, hb1⟩; have HB1 := Lib.hid hb1; clear hb1)
      | (go_at_call 12; refine (HMU.out _ HB1.out).mono ?_; rintro e w2 ⟨rfl, hb2⟩; have HB2 := Lib.hid (HB1.out.trans (hb2.mono HB1.out.size)); clear hb2)
      | fail)
    go_upto_region 2 with fail
    have h9 := live_any10 w2 (HT.out.below HB2.out)
    have H9 := Lib.hid h9; clear h9
    go_wp2_with (first
      | (go_at_call 11; refine H9.out.mono ?_; rintro e w9 ⟨rfl, hb9⟩; have HB9 := Lib.hid (HB2.out.trans (hb9.mono HB2.out.size)); clear hb9)
      | fail)
    go_ret
    exact ⟨rfl, HB9.out⟩
  | true =>
    rw [hf] at hmu
    have HMU := Lib.hid hmu
    cases hs : smallB q with
    | false =>
      rw [hs] at hbg
      have HBG := Lib.hid hbg
      clear hT hx ho hmu hf hq hbg hs
      go_enter Tryz.func3, Tryz.ntmps3
      go_wp2_with (first
        | (go_at_call 11; refine H1.out.mono ?_; rintro e w1 ⟨rfl, hb1⟩; have HB1 := Lib.hid hb1; clear hb1)
        | (go_at_call 12; refine (HMU.out _ HB1.out).mono ?_; rintro e w2 ⟨rfl, hb2⟩; have HB2 := Lib.hid (HB1.out.trans (hb2.mono HB1.out.size)); clear hb2)
        | (go_at_call 13; refine (HBG.out _ HB2.out).mono ?_; rintro e w3 ⟨rfl, hb3⟩; have HB3 := Lib.hid (HB2.out.trans (hb3.mono HB2.out.size)); clear hb3)
        | fail)
      go_upto_region 2 with fail
      have h9 := live_any10 w3 (HT.out.below HB3.out)
      have H9 := Lib.hid h9; clear h9
      go_wp2_with (first
        | (go_at_call 11; refine H9.out.mono ?_; rintro e w9 ⟨rfl, hb9⟩; have HB9 := Lib.hid (HB3.out.trans (hb9.mono HB3.out.size)); clear hb9)
        | fail)
      go_ret
      exact ⟨rfl, HB9.out⟩
    | true =>
      rw [hs] at hbg
      have HBG := Lib.hid hbg
      have HFQ := Lib.hid (small_few hs)
      obtain ⟨hl60, hfe⟩ := fewOps_of hf
      have HFE := Lib.hid hfe
      have HN := Lib.hid (fun W => inew_any W)
      have heq := neq_ptr
      clear hT hx ho hmu hf hq hbg hs hfe
      go_enter Tryz.func3, Tryz.ntmps3
      go_wp2_with (first
        | (go_at_call 11; refine H1.out.mono ?_; rintro e w1 ⟨rfl, hb1⟩; have HB1 := Lib.hid hb1; clear hb1)
        | (go_at_call 12; refine (HMU.out _ HB1.out).mono ?_; rintro e w2 ⟨rfl, hb2⟩; have HB2 := Lib.hid (HB1.out.trans (hb2.mono HB1.out.size)); clear hb2)
        | (go_at_call 13; refine (HBG.out _ HB2.out).mono ?_; rintro e w3 ⟨rfl, hb3⟩; have HB3 := Lib.hid (HB2.out.trans (hb3.mono HB2.out.size)); clear hb3)
        | (go_at_call 14; refine (HN.out w3).mono ?_; rintro e w4 ⟨xb, G, rfl, hi, hb, hg⟩
           have HTW := Lib.hid (two_start hi hb hg)
           clear hi hb hg)
        | fail)
      go_loopw [37] (fun s37 wr => ∃ (k : Nat) (T : Nat → Prop), s37 = .int .i64 k ∧ k ≤ l.length ∧ Aside (Two w3 wr xb w4.heap.size T (opsL [] (l.take k)) (opsL [] (l.take k)))) (fun s37 _ => l.length - (intOf s37).toNat)
      case atStart => exact ⟨0, _, rfl, Nat.zero_le _, (show Aside _ from HTW.out)⟩
      case round =>
        obtain ⟨k, T, rfl, hk, HK⟩ := hrel
        have k0 : (0 : Int) ≤ (k : Int) := by omega
        by_cases hlt : k < l.length
        · have k1 : (k : Int) < (l.length : Int) := by omega
          obtain ⟨y, hy⟩ : ∃ y, l[k]? = some y := ⟨_, List.getElem?_eq_getElem hlt⟩
          have HXW := Lib.hid ((HX.out.below HB3.out).below HK.out.bel)
          obtain ⟨b, off, rfl, hcl⟩ := HXW.out.flat opP_len (by decide) hy
          have d0 := hcl 0 _ rfl; have d1 := hcl 1 _ rfl; have d2 := hcl 2 _ rfl
          rw [Nat.add_zero] at d0
          have hmem := List.mem_of_getElem? hy
          have hoi := (HO.out y hmem).below HB3.out
          obtain ⟨W, hW⟩ : ∃ W, W = wr.alloc (.cells #[.bool y.cut, .int .u64 (y.ref : Nat), .slice y.A y.ls.length y.c] 36) := ⟨_, rfl⟩
          have hbb : Below wr.heap.size wr W := by rw [hW]; exact (Below.refl _ wr).alloc (Nat.le_refl _) _
          have hbd : Below wr.heap.size wr W.drew := ⟨hbb.os, hbb.tape, hbb.output, hbb.size, hbb.block⟩
          have hbx : W.heap[wr.heap.size]? = some (.cells #[.bool y.cut, .int .u64 (y.ref : Nat), .slice y.A y.ls.length y.c] 36 (0, 0)) := by rw [hW]; exact heap_alloc_new wr _
          have hdo := does_any (HK.out.below hbd) (HT.out.below HB3.out) y hoi.1 ((hoi.2.1.below HK.out.bel).below hbd) (fun h0 b hb e => by have := HK.out.lo b e; have := op_low hoi.2.1 h0 hb; omega) (HFE.out y hmem)
          rw [← opsL_take hy] at hdo
          have HDO := Lib.hid hdo
          have HTK := Lib.hid HK.out
          have f0 := cell_blk (w := W.drew) hbx 0; have f1 := cell_blk (w := W.drew) hbx 1; have f2 := cell_blk (w := W.drew) hbx 2
          simp only [List.getElem?_toArray, List.getElem?_cons_succ, List.getElem?_cons_zero] at f0 f1 f2
          have HW := Lib.hid hW
          clear hcl hy hmem hoi hdo HK hbb hbd hbx hW
          obtain ⟨ct, m, Ay, cy, ls⟩ := y
          simp only at d0 d1 d2 HDO f0 f1 f2 HW
          generalize ls.length = lsn at d2 HDO f2 HW
          obtain ⟨N, hN⟩ : ∃ N, N = opsL [] (l.take (k + 1)) := ⟨_, rfl⟩
          rw [← hN] at HDO
          have g1 : ((N.length : Int) != (N.length : Int)) = false := by simp
          have HN9 := Lib.hid hN
          clear hN
          go_upto_region 9 with fail
          rw [← HW.out]
          go_region_with (first
            | (go_at_call 15; refine HDO.out.mono ?_; rintro e w5 ⟨rfl, T5, h5, -, -⟩
               obtain ⟨A5, c5, e5⟩ := two_box h5
               have HL5 := Lib.hid (two_len h5)
               have H5 := Lib.hid h5
               clear h5)
            | (go_at_call 16; refine HL5.out.mono ?_; rintro e w6 ⟨rfl, rfl⟩)
            | fail)
          all_goals
            go_wp2_with fail
            first
              | exact ⟨⟨k + 1, T5, by go_num, by omega, (show Aside _ from by rw [← HN9.out]; exact H5.out)⟩, by simp [intOf]; omega⟩
              | (refine ⟨?_, ?_⟩
                 · repeat apply Exists.intro
                   refine ⟨?_, rfl⟩
                   exact ⟨k + 1, T5, by go_num, by omega, (show Aside _ from by rw [← HN9.out]; exact H5.out)⟩
                 · simp [intOf]; omega)
        · obtain rfl : k = l.length := by omega
          have h9 := HK.out
          rw [List.take_length] at h9
          have H9 := Lib.hid h9
          have HT3 := Lib.hid (HT.out.below HB3.out)
          have B9 := Lib.hid (HB3.out.trans (h9.bel.mono HB3.out.size))
          have hlf : ∀ l9, labAt (opsL [] l) n = some l9 → l9.length ≤ 16 := fun l9 hl => (right_parts (h9.wf.right _ (labAt_some hl))).1
          clear h9 HK
          obtain ⟨N, hN⟩ : ∃ N, N = opsL [] l := ⟨_, rfl⟩
          rw [← hN] at H9 hlf
          clear hN
          go_wp2_with fail
          refine (two_labels H9.out hn).mono ?_
          rintro e w5 ⟨A5, c5, l5, hl5, rfl, hr5, hb5⟩
          have H5 := Lib.hid (H9.out.below hb5)
          have B5 := Lib.hid (B9.out.trans (hb5.mono B9.out.size))
          have HR5 := Lib.hid hr5
          have HL5 := Lib.hid hl5
          have hz5 : l5.length ≤ 1000000 := by
            cases hla : labAt N n with
            | none => rw [hl5, hla]; simp
            | some l9 => rw [hl5, hla]; have := hlf l9 hla; simp; omega
          clear hr5 hb5 hl5 hlf
          go_wp2_with fail
          refine (two_rlabels H5.out hn).mono ?_
          rintro e w6 ⟨A6, c6, l6, hl6, rfl, hr6, hb6⟩
          obtain rfl : l6 = l5 := hl6.trans HL5.out.symm
          have H6 := Lib.hid (H5.out.below hb6)
          have B6 := Lib.hid (B5.out.trans (hb6.mono B5.out.size))
          have HR6 := Lib.hid hr6
          have HR56 := Lib.hid (HR5.out.below hb6)
          clear hr6 hb6 hl6
          go_wp2_with fail
          refine (two_ref H6.out HT3.out Q cq q (HQ.out.below B6.out) HFQ.out).mono ?_
          rintro e w7 ⟨rfl, hb7⟩
          have H7 := Lib.hid (H6.out.below hb7)
          have B7 := Lib.hid (B6.out.trans (hb7.mono B6.out.size))
          have HR7 := Lib.hid (HR6.out.below hb7)
          have HR57 := Lib.hid (HR56.out.below hb7)
          clear hb7
          go_wp2_with fail
          refine (two_rref H7.out Q cq q (HQ.out.below B7.out) HFQ.out).mono ?_
          rintro e w8 ⟨rfl, hb8⟩
          have B8 := Lib.hid (B7.out.trans (hb8.mono B7.out.size))
          have h8 := rsame_any A5 A6 c5 c6 l6 l6 w8 (HR57.out.below hb8) (HR7.out.below hb8) hz5 hz5
          rw [decide_eq_true rfl] at h8
          have HS8 := Lib.hid h8
          clear hb8 h8
          generalize (refAt N q).getD 0 = r9
          have g1 : ((r9 : Int) == (r9 : Int)) = true := beq_self_eq_true _
          generalize (refAt N q).isSome = i9
          generalize (labAt N n).isSome = j9
          go_wp2_with fail
          refine HS8.out.mono ?_
          rintro e w9' ⟨rfl, q9, rfl⟩
          have B10 := Lib.hid (below_drewN B8.out q9)
          go_wp2_with fail
          go_ret
          exact ⟨rfl, B10.out⟩
end


set_option maxRecDepth 100000 in
theorem postingsAdds_contract (H : Type) (enc : TypeId × Value → H) (W : World) (base : Nat) (args : Array Value) (ds gs : List (DataW H)) (before : List MemPlace)
    (hval : ∀ (j : Nat) t v, Tryz.f3.params[j]? = some t → args[j]? = some v → Value.okWide Tryz.prog W .any base t v)
    (hW : DataW.Whole enc Tryz.prog Tryz.f3.params.toList Rows.postingsAddsSpec.vars false W args.toList ds gs before) (hL : laidMetH Tryz.prog Rows.postingsAddsRow.laid W) :
    Calls Tryz.prog 3 args W fun e W' => ∃ v, e = .returned v ∧ Rows.postingsAddsSpec.post enc Tryz.prog Tryz.f3 false true false false W args v W' := by
  have hW' := hW
  obtain ⟨p, q, hA0, hV, rfl, hfz, hnd⟩ := hW
  have hA : DataW.TrodAll enc Tryz.prog W 0 (fun _ => true) true Tryz.f3.params.toList args.toList ds p := hA0
  rw [Tryz.params3] at hA hval
  obtain ⟨v0, vs0, d0, ds0, p0, q0, hargs, rfl, rfl, h0, r0⟩ := trodAll_cons hA
  obtain ⟨v1, vs1, d1, ds1, p1, q1, rfl, rfl, rfl, h1, r1⟩ := trodAll_cons r0
  obtain ⟨v2, vs2, d2, ds2, p2, q2, rfl, rfl, rfl, h2, r2⟩ := trodAll_cons r1
  obtain ⟨rfl, rfl, rfl⟩ := trodAll_nil r2
  obtain rfl : args = #[v0, v1, v2] := by cases args; simp_all
  obtain ⟨rfl, rfl⟩ := trodVars_none hV
  obtain ⟨A0, c0, o0, rfl, hm0, hx0, hs0⟩ := open_opsP (hval 0 22 v0 rfl rfl) h0
  obtain ⟨z1, rfl, rfl, rfl, w1⟩ := open_int Tryz.underlying23 (hval 1 23 v1 rfl rfl) h1
  obtain ⟨A2, c2, l2, rfl, hm2, hx2, hs2⟩ := open_labels (hval 2 25 v2 rfl rfl) h2
  clear hA0 hA
  unfold maxLen at hm0
  have b1 := bounds_u64 w1
  obtain ⟨n1, rfl⟩ := Int.eq_ofNat_of_zero_le b1.1
  unfold maxLen at hm2 hs2
  refine (padds_walk A0 c0 o0 n1 A2 c2 l2 W (tabs hL) hx0 hs0 (by omega) hx2).mono fun e W' ⟨he, hg⟩ => ?_
  subst he
  exact ⟨_, rfl, law_end laidOut (by kernel_rfl) (by kernel_rfl) Tryz.underlying4 rfl hW' ⟨rfl, rfl, rfl⟩ hg⟩

theorem postingsAdds_met (os : Os) : laidMet Tryz.prog Rows.postingsAddsRow.laid ((laidWorld os).forCall (fun _ _ => 0) ⟨#[], #[.slice none 0 0, .int .u64 0, .slice none 0 0], []⟩).memory :=
  laid_met os _
theorem postingsAdds_reads (os : Os) {H : Type} (enc : TypeId × Value → H) : ∃ places, DataW.whole enc Tryz.prog ((laidWorld os).forCall (fun _ _ => 0) ⟨#[], #[.slice none 0 0, .int .u64 0, .slice none 0 0], []⟩).memory Tryz.f3.params.toList Rows.postingsAddsSpec.vars false (#[.slice none 0 0, .int .u64 0, .slice none 0 0] : Array Value).toList 8 = some ([.nil, .lit (.int .u64 0), .nil], [], places) :=
  ⟨[], by kernel_rfl⟩

set_option maxRecDepth 100000 in
theorem postingsAdds_lifted (os : Os) (started : os.Started) (H : Type) (enc : TypeId × Value → H) (F : Stop.Interp) :
    ReturnsInHanded {} Tryz.checked os 3 .any ((OpenSpec.ofChange Rows.postingsAddsSpec).preRow enc Tryz.prog Tryz.f3 Rows.postingsAddsRow.domain false Rows.postingsAddsRow.laid) (((OpenSpec.ofChange Rows.postingsAddsSpec).at F).post enc Tryz.prog Tryz.f3 false true false false) := by
  obtain ⟨places, hx⟩ := postingsAdds_reads os enc
  refine returnsInHanded_of_row (C := Tryz.checked) (s := OpenSpec.ofChange Rows.postingsAddsSpec) ownKn started (by kernel_rfl) Tryz.func3
    (witness_row_at (enc := enc) (C := Tryz.checked) false (laidWorld os) #[.slice none 0 0, .int .u64 0, .slice none 0 0] rfl (by kernel_rfl) (by kernel_rfl) (by kernel_rfl)
      (OpenSpec.preRow_of_cond 8 hx (by kernel_rfl) (fun k hk => by cases hk) (by kernel_rfl) (postingsAdds_met os))) ?_
  intro W base args ds gs before hval hW _ _ _ hL _ _
  exact postingsAdds_contract H enc W base args ds gs before hval hW hL

theorem postingsAdds_said : Rows.PostingsAddsSaid :=
  OpenClaim.holds_of_cond 3 Tryz.f3 rfl rfl rfl rfl rfl rfl rfl ⟨rfl, rfl, rfl, rfl, rfl⟩ rfl rfl rfl rfl rfl (by kernel_rfl) Tryz.func3 (by kernel_rfl)
    (of_decide_eq_true (by kernel_rfl)) (by unfold Func.isWrapper; first | (rw [if_pos (by decide +kernel)]; kernel_rfl) | (rw [if_neg (by decide +kernel)]; exact ⟨rfl, rfl⟩))
    (fun os started H enc _ F => by rw [OpenClaim.pre_eq_preRow]; exact postingsAdds_lifted os started H enc F)

theorem postingsAdds_plain (f : FuncId) (fn : Func) (hf : Tryz.pinned.checked.prog.funcNamed "manometer/manometerlaw10.PostingsAdds" = some f) (hfn : Tryz.pinned.checked.prog.funcs[f]? = some fn) :
    true = Tryz.pinned.checked.prog.looks [] ∧ ∀ (j : Nat) t, fn.params[j]? = some t → Tryz.pinned.checked.prog.wantsStandIn t = false := by
  obtain rfl : f = 3 := Option.some.inj ((show Tryz.prog.funcNamed "manometer/manometerlaw10.PostingsAdds" = some 3 by kernel_rfl).symm.trans hf) |>.symm
  obtain rfl : fn = Tryz.f3 := (Option.some.inj (Tryz.func3.symm.trans hfn)).symm
  refine ⟨by kernel_rfl, fun j t ht => ?_⟩
  rw [Tryz.params3] at ht
  have hm : t = 22 ∨ t = 23 ∨ t = 25 := by simpa using Array.mem_of_getElem? ht
  rcases hm with rfl | rfl | rfl
  · exact (show Tryz.prog.wantsStandIn 22 = false by kernel_rfl)
  · exact (show Tryz.prog.wantsStandIn 23 = false by kernel_rfl)
  · exact (show Tryz.prog.wantsStandIn 25 = false by kernel_rfl)

theorem postingsAdds_card : Rows.PostingsAddsCardSaid :=
  Claim7.holds_tied_plain_at .later [] _ _ _ _ postingsAdds_said (fun _ h => by cases h) (by kernel_rfl) (fun _ h => by cases h) postingsAdds_row_tie rfl ⟨rfl, rfl⟩ (by kernel_rfl) rfl postingsAdds_plain (by kernel_rfl)
#print axioms postingsAdds_card

end Go.Proofs.YtjgappbomohlcaaGreatDoor
