/-
  A class.
-/
import Derived.Test.YtfohmepjedehfabQm
namespace Go.Proofs.Ytfohmepjedehfab
set_option linter.unusedVariables false
set_option linter.unusedSimpArgs false
open Go.RowKit
section
set_option maxHeartbeats 1600000
set_option maxRecDepth 100000
/-- What a class is while its members are read. -/
structure ClsIs (W wr : World) (p b3 : Nat) (l0 l' : List Pc) (v : Value) (us : List Value) (L : List Atm) (neg : Bool) (acc : Spans) (A : Option Addr) (c : Nat) : Prop where
  box : wr.heap[b3]? = some (.cells #[.slice A acc.length c, .bool neg, .int .u64 0, .int .u64 0, .int .u64 0, .int .u64 0] 124 (0, 0))
  pis : PIs wr p l' v us L
  own : wr.ownsRow (b3 + 1) 128 2 (.slice A acc.length c) acc.length (spC acc)
  mv : Mv (fun k => k = p) W wr
  len : l'.length ≤ l0.length
  few : acc.length + 4 * l'.length ≤ 2000
theorem cls_box {w : World} {b3 : Nat} {s s' : Value} {neg : Bool} (h : w.heap[b3]? = some (.cells #[s, .bool neg, .int .u64 0, .int .u64 0, .int .u64 0, .int .u64 0] 124 (0, 0))) : (w.setCell ⟨b3, 0, none⟩ s').heap[b3]? = some (.cells #[s', .bool neg, .int .u64 0, .int .u64 0, .int .u64 0, .int .u64 0] 124 (0, 0)) := by
  have := set_blk h 0 s'
  simpa using this
/-- The first members. -/
theorem ClsIs.first {W w2 w3 : World} {p b3 b n c : Nat} {l0 l2 : List Pc} {v s : Value} {us : List Value} {L : List Atm} {neg : Bool} {m : Spans} (h : PIs W p l0 v us L) (hb : W.heap.size ≤ b3) (h2 : w2.heap[b3]? = some (.cells #[s, .bool neg, .int .u64 0, .int .u64 0, .int .u64 0, .int .u64 0] 124 (0, 0))) (m2 : Mv (fun k => k = p) W w2)
    (hn : n = m.length) (ho : w3.ownsRow w2.heap.size 128 2 (.slice (some ⟨b, 0, none⟩) n c) n (spC m)) (h3 : PIs w3 p l2 v us L) (m3 : Mv (fun k => k = p) w2 w3) (hl : l2.length ≤ l0.length) (hm : m.length ≤ 4) :
    ClsIs W (w3.setCell ⟨b3, 0, none⟩ (.slice (some ⟨b, 0, none⟩) n c)) p b3 l0 l2 v us L neg m (some ⟨b, 0, none⟩) c := by
  subst hn
  have hp := h.lt
  have hb2 := blk_lt h2
  have hb3 : w3.heap[b3]? = _ := (m3.block _ hb2 (by omega)).trans h2
  have ms : Mv (fun k => k = b3) w3 (w3.setCell ⟨b3, 0, none⟩ (.slice (some ⟨b, 0, none⟩) m.length c)) := (Mv.refl (fun k => k = b3) w3).setCell (p := ⟨b3, 0, none⟩) (fun _ => rfl) _
  have hf := h.few
  refine ⟨cls_box hb3, h.high h3 ms (fun k e => by omega), own_mv (ho.lower (by omega)) ms fun k hk e => ?_, (m2.trans m3 fun _ _ h => h).trans ms fun i hi e => by omega, hl, by omega⟩
  have := (ho.lt k hk).1
  omega
/-- More members. -/
theorem ClsIs.more {W wr w3 w4 : World} {p b3 : Nat} {l0 l' l2 : List Pc} {v : Value} {us : List Value} {L : List Atm} {neg : Bool} {acc m : Spans} {A : Option Addr} {c : Nat} (h : PIs W p l0 v us L) (hb : W.heap.size ≤ b3) (k : ClsIs W wr p b3 l0 l' v us L neg acc A c)
    (h3 : PIs w3 p l2 v us L) (m3 : Mv (fun k => k = p) wr w3) (hs : l2.length < l'.length) (hm : m.length ≤ 4) {A' : Option Addr} {c' : Nat} (ho : w4.ownsRow (b3 + 1) 128 2 (.slice A' (acc.length + m.length) c') (acc.length + m.length) (spC acc ++ spC m)) (hg : w3.grownBy w4 (Value.slice A acc.length c).ownBlock) :
    ClsIs W (w4.setCell ⟨b3, 0, none⟩ (.slice A' (acc.length + m.length) c')) p b3 l0 l2 v us L neg (acc ++ m) A' c' := by
  have hp := h.lt
  have hb2 := blk_lt k.box
  have hb3 : w3.heap[b3]? = _ := (m3.block _ hb2 (by omega)).trans k.box
  have mg : Mv (fun i => (Value.slice A acc.length c).ownBlock = some i) w3 w4 := (Mv.refl _ w3).grown hg fun _ _ h => h
  have hab : ∀ i, (Value.slice A acc.length c).ownBlock = some i → b3 + 1 ≤ i := fun i hi => (k.own.lt i hi).1
  have hb4 : w4.heap[b3]? = _ := (mg.block _ (blk_lt hb3) (fun e => by have := hab _ e; omega)).trans hb3
  have ms : Mv (fun k => k = b3) w4 (w4.setCell ⟨b3, 0, none⟩ (.slice A' (acc.length + m.length) c')) := (Mv.refl (fun k => k = b3) w4).setCell (p := ⟨b3, 0, none⟩) (fun _ => rfl) _
  have h4 := h.high h3 mg fun i hi => by have := hab i hi; omega
  have hl := k.len
  have hf := k.few
  refine ⟨by rw [List.length_append]; exact cls_box hb4, h.high h4 ms (fun k e => by omega), by rw [List.length_append, spC_app]; exact own_mv ho ms fun i hi e => by (have := (ho.lt i hi).1; omega), ?_, by omega, by rw [List.length_append]; omega⟩
  refine ((k.mv.trans m3 fun _ _ h => h).trans mg fun i hi e => ?_).trans ms fun i hi e => by omega
  have := hab i e; omega
theorem class_any (p : Nat) (l : List Pc) (v : Value) (us : List Value) (L : List Atm) (w : World) (h : PIs w p l v us L) (h91 : nowP l = 91) :
    Calls Try.prog 103 #[.pointer (some ⟨p, 0, none⟩)] w (OutP p v L w (classP l)) := by
  obtain ⟨R, hR⟩ : ∃ R, R = classP l := ⟨_, rfl⟩
  rw [← hR]
  unfold classP at hR
  have hn1 : nowP l ≠ -1 := by rw [h91]; decide
  obtain ⟨W, hW⟩ : ∃ W, W = w.alloc (.cells #[.int .u64 0, .int .u64 0, .int .u64 0, .int .u64 0, .int .u64 0, .int .u64 0, .int .u64 0, .int .u64 0, .bool false] 85) := ⟨_, rfl⟩
  have hz : Zs w W := by rw [hW]; exact Zs.mk' w
  have h1 := hz.pis h
  have HW := Lib.hid hW; have HZ := Lib.hid hz; have H := Lib.hid h
  clear hW hz
  have HP := Lib.hid (pass_any p l v us L W h1 hn1)
  have HTL := Lib.hid (tail_lt h.ok)
  have H1 := Lib.hid h1; clear h1 h h91 hn1
  by_cases h94 : nowP l.tail = 94
  · have d94 : decide (nowP l.tail = 94) = true := by rw [h94]; rfl
    simp only [d94, if_true] at hR
    have HR := Lib.hid hR; clear hR d94
    go_enter Try.func103, Try.ntmps103
    go_wp2_with fail
    rw [← HW.out]
    go_wp2_with fail
    refine HP.out.mono ?_
    rintro e w1 ⟨rfl, h1, hm1⟩
    have hN := now_any p _ v us L w1 h1
    rw [h94] at hN

    have HN := Lib.hid hN
    have HM1 := Lib.hid hm1; have HP1 := Lib.hid h1; clear hm1 h1 hN
    go_wp2_with fail
    refine HN.out.mono ?_
    rintro e w2 ⟨rfl, rfl⟩
    obtain ⟨Wb, hWb⟩ : ∃ Wb, Wb = w2.alloc (.cells #[.slice none 0 0, .bool true, .int .u64 0, .int .u64 0, .int .u64 0, .int .u64 0] 124) := ⟨_, rfl⟩
    obtain ⟨b3, hb3⟩ : ∃ b3, b3 = w2.heap.size := ⟨_, rfl⟩
    have hbb : RowKit.Below w2.heap.size w2 Wb := by rw [hWb]; exact (RowKit.Below.refl _ _).alloc (Nat.le_refl _) _
    have HB3 := Lib.hid (show W.heap.size ≤ b3 by rw [hb3]; exact HM1.out.size)
    have hbx : Wb.heap[b3]? = some (.cells #[.slice none 0 0, .bool true, .int .u64 0, .int .u64 0, .int .u64 0, .int .u64 0] 124 (0, 0)) := by rw [hWb, hb3]; exact heap_alloc_new _ _
    have hpb := HP1.out.below hbb
    have hmb := HM1.out.trans (Mv.of_below hbb (fun k => k = p)) fun _ _ h => h
    have HWb := Lib.hid hWb; have HBE := Lib.hid hb3
    have bc0 := cell_blk hbx 0
    have bc1 := cell_blk hbx 1
    have bf0 := free_blk hbx 0
    simp only [List.getElem?_toArray, List.getElem?_cons_zero, List.getElem?_cons_succ] at bc0 bc1
    have HPP := Lib.hid (pass_any p _ v us L Wb hpb (by rw [h94]; decide))
    have HT2 := Lib.hid (tail_lt hpb.ok)
    have HBB := Lib.hid hbx; have HMB0 := Lib.hid hmb; clear hbx hmb hpb hbb hWb hb3 HM1 HP1 HN h94
    go_wp2_with fail
    rw [← HWb.out, ← HBE.out]
    go_wp2_with fail
    refine HPP.out.mono ?_
    rintro e wm ⟨rfl, hpq, hmq⟩
    have HPQ := Lib.hid hpq
    have HMQ := Lib.hid (HMB0.out.trans hmq fun _ _ h => h)
    have HBX := Lib.hid (show wm.heap[b3]? = some (.cells #[.slice none 0 0, .bool true, .int .u64 0, .int .u64 0, .int .u64 0, .int .u64 0] 124 (0, 0)) from (hmq.block _ (blk_lt HBB.out) (by have := H1.out.lt; have := HB3.out; omega)).trans HBB.out)
    obtain ⟨lq, hlq⟩ : ∃ lq, lq = l.tail.tail := ⟨_, rfl⟩
    have HLQ := Lib.hid (show lq.length ≤ l.length by have := HTL.out; have := HT2.out; rw [hlq]; omega)
    rw [← hlq] at HPQ HR
    clear hpq hmq bc0 bc1 bf0 hlq HTL HT2 HPP HMB0 HBB
    obtain ⟨r1, hr1⟩ : ∃ r1, r1 = memberP lq := ⟨_, rfl⟩
    have hmb := member_any p lq v us L wm HPQ.out
    have hsh : ∀ m l2, r1 = .ok (m, l2) → l2.length < lq.length ∧ m.length ≤ 4 := fun m l2 e => by rw [hr1] at e; exact ⟨(memberP_shr HPQ.out.ok e).lt, memberP_len e⟩
    have hR := HR.out
    rw [← hr1] at hmb hR
    have HMB := Lib.hid hmb; have HSH := Lib.hid hsh; clear hmb hsh hr1 HR
    cases r1 with
    | error f =>
      have HR := Lib.hid hR; clear hR
      go_wp2_with fail
      refine HMB.out.mono ?_
      rintro e w3 ⟨rfl, hm3⟩
      have HM3 := Lib.hid hm3; clear hm3
      unfold flE
      go_wp2
      rw [HR.out]
      exact ⟨rfl, rfl, HZ.out.err ((Mvd.box (HMQ.out.trans HM3.out fun _ _ h => h)).mv)⟩
    | ok x =>
      obtain ⟨m, l2⟩ := x
      simp only at hR
      obtain ⟨hl2, hm4⟩ := HSH.out m l2 rfl
      obtain ⟨R2, hR2⟩ : ∃ R2, membersP l2.length m l2 = R2 := ⟨_, rfl⟩
      rw [hR2] at hR
      have HR := Lib.hid hR; have HR2 := Lib.hid hR2; clear hR hR2 HSH
      go_wp2_with fail
      refine HMB.out.mono ?_
      rintro e w3 ⟨b, n, c, rfl, hn, ho, h3, hm3⟩
      have hbx : w3.heap[b3]? = _ := (hm3.block _ (blk_lt HBX.out) (by have := H1.out.lt; have := HB3.out; omega)).trans HBX.out
      have bc0 := cell_blk hbx 0
      have bf0 := free_blk hbx 0
      simp only [List.getElem?_toArray, List.getElem?_cons_zero] at bc0
      have HC := Lib.hid (ClsIs.first H1.out HB3.out HBX.out HMQ.out hn ho h3 hm3 (by have := HLQ.out; omega) hm4)
      clear hn ho h3 hm3 hbx HMB HMQ HPQ HBX hl2 hm4
      go_wp2_with fail
      go_loopw [] (fun wr => ∃ (acc : Spans) (l' : List Pc) (A : Option Addr) (c : Nat), Aside (ClsIs W wr p b3 l l' v us L true acc A c) ∧ Aside (membersP l'.length acc l' = R2)) (fun wr => restN p wr)
      case atStart => exact ⟨m, l2, _, _, HC.out, HR2.out⟩
      case round =>
        obtain ⟨acc, l', A, c', HCL, HE⟩ := hrel
        clear HC bc0 bf0
        have hE := HE.out
        rw [members_step acc HCL.out.pis.ok] at hE
        have HN := Lib.hid (now_any p l' v us L wr HCL.out.pis)
        have hp3 : p < b3 := by have := H1.out.lt; have := HB3.out; omega
        by_cases h93 : nowP l' = 93
        · rw [if_pos h93] at hE
          have hR := HR.out
          rw [← hE] at hR
          simp only at hR
          have HR9 := Lib.hid hR
          have hn2 : nowP l' ≠ -1 := by rw [h93]; decide
          have HP := Lib.hid (pass_any p l' v us L wr HCL.out.pis hn2)
          have hf : L.length + l'.tail.length ≤ 256 := by have := tail_lt HCL.out.pis.ok; have := HCL.out.len; have := H1.out.few; omega
          have hN := HN.out
          rw [h93] at hN
          have HNN := Lib.hid hN
          clear hN HN hE hR HR hn2 h93
          have HR := HR9
          go_wp2_with fail
          refine HNN.out.mono ?_
          rintro e w4 ⟨rfl, rfl⟩
          go_wp2_with fail
          refine HP.out.mono ?_
          rintro e w5 ⟨rfl, h5, hm5⟩
          have hbx : w5.heap[b3]? = _ := (hm5.block _ (blk_lt HCL.out.box) (by omega)).trans HCL.out.box
          have bc0 := cell_blk hbx 0
          have bc1 := cell_blk hbx 1
          have bc2 := cell_blk hbx 2
          have bc3 := cell_blk hbx 3
          have bc4 := cell_blk hbx 4
          have bc5 := cell_blk hbx 5
          simp only [List.getElem?_toArray, List.getElem?_cons_zero, List.getElem?_cons_succ] at bc0 bc1 bc2 bc3 bc4 bc5
          have HA := Lib.hid (add_any p _ v us L _ acc true w5 h5 ((own_mv HCL.out.own hm5 fun k hk e => by have := (HCL.out.own.lt k hk).1; omega).lower (by omega)) hf)
          have HM5 := Lib.hid (Mvd.box (v := v) (HCL.out.mv.trans hm5 fun _ _ h => h)); clear hm5 h5 hbx hf
          go_wp2_with fail
          refine HA.out.mono ?_
          rintro e w6 ⟨v', us', rfl, h6, hm6⟩
          have hq9 := HM5.out.trans hm6
          go_wp2_with (first
            | (refine wpList_store_agg (o := ⟨none, _, _, _, _, _⟩) ?_ 85 (.tmp 2) (.tmp 30) ?_ (w.heap.size) 0 (partL (compP (.set acc true) L).1) ?_ ?_ 85 zP (HZ.out.at' H.out hq9.mv) ?_ ?_ ?_ ?_; rfl; rfl; rfl; rfl; kernel_rfl; (show 0 + 9 ≤ 9; decide); exact partL_one _; intro w9 hw9 hm9 hs9; rw [spl9 _ rfl] at hw9)
            | fail)
          refine bodyPost_cell rfl (w.heap.size) 85 (partL (compP (.set acc true) L).1).toArray rfl hw9 (by kernel_rfl) (by kernel_rfl) rfl ?_
          rw [HR.out]
          exact HZ.out.fin H.out h6 hq9 hm9
        · rw [if_neg h93] at hE
          have g93 : (nowP l' != 93) = true := by rw [bne_iff_ne]; exact h93
          obtain ⟨r2, hr2⟩ : ∃ r2, r2 = memberP l' := ⟨_, rfl⟩
          have hmb := fun W' (k : PIs W' p l' v us L) => member_any p l' v us L W' k
          have hsh : ∀ m l2, r2 = .ok (m, l2) → l2.length < l'.length ∧ m.length ≤ 4 := fun m l2 e => by rw [hr2] at e; exact ⟨(memberP_shr HCL.out.pis.ok e).lt, memberP_len e⟩
          rw [← hr2] at hmb hE
          have HMB := Lib.hid hmb; have HSH := Lib.hid hsh; clear hmb hsh hr2
          have bc0 := cell_blk HCL.out.box 0
          simp only [List.getElem?_toArray, List.getElem?_cons_zero] at bc0
          have HE2 := Lib.hid hE; clear hE HE h93
          generalize nowP l' = cn at g93 HN
          cases r2 with
          | error f =>
            have hE := HE2.out
            simp only at hE
            have hR := HR.out
            rw [← hE] at hR
            simp only at hR
            have HR9 := Lib.hid hR; clear hE hR HE2 HR
            have HR := HR9
            go_wp2_with fail
            refine HN.out.mono ?_
            rintro e w4 ⟨rfl, rfl⟩
            have HPI := Lib.hid (fun W' (m : Mv (fun _ => False) w4 W') => HMB.out W' (HCL.out.pis.other m (fun _ _ f => f) (fun _ _ f => f)))
            have HERR := Lib.hid (show ∀ W', Mv (fun k => k = p) w4 W' → OutP p v L w R (flE f) W' from fun W' m => by rw [HR.out]; exact ⟨rfl, HZ.out.err (Mvd.box (v := v) (HCL.out.mv.trans m fun _ _ h => h)).mv⟩)
            clear HMB HSH
            unfold flE at HPI
            go_wp2_with fail
            refine wp_region_any (by kernel_rfl) ?_
            try (change wpAny _ _ _ _ _ _ _ (World.drew _))
            refine wpAny_take (i := 0) (v := ?_) rfl (by kernel_rfl) (by kernel_rfl) (by kernel_rfl) (fun _ _ _ h => h) (Or.inl ⟨by rfl, ?_⟩) ?_
            rotate_left
            · intro w; go_simp; try with_reducible rfl
            refine wpAny_take (i := 2) (v := ?_) rfl (by kernel_rfl) (by kernel_rfl) (by kernel_rfl) (fun _ _ _ h => h) (Or.inl ⟨by rfl, ?_⟩) ?_
            rotate_left
            · intro w; go_simp; try with_reducible rfl
            refine wpAny_ready (rs := [1, 3]) (by kernel_rfl) (by simp) ?_
            refine AllReady.cons rfl (fun K hK => ?_) ?_
            · go_simp
              refine hK _ _ ?_
              clear hK K
              refine wpAny_ready (rs := [3]) (by kernel_rfl) (by simp) ?_
              refine AllReady.cons rfl (fun K hK => ?_) AllReady.nil
              · go_simp
                (with_reducible refine (HPI.out _ (by repeat (first | exact Mv.refl _ w4 | refine Mv.drew ?_))).mono ?_); rintro e wq ⟨rfl, hmq⟩; have hmq2 : Mv (fun k => k = p) w4 wq := (by first | exact hmq | exact undrewMv hmq | exact undrewMv (undrewMv hmq)); exact ⟨rfl, HERR.out _ hmq2⟩
            refine AllReady.cons rfl (fun K hK => ?_) AllReady.nil
            · go_simp
              (with_reducible refine (HPI.out _ (by repeat (first | exact Mv.refl _ w4 | refine Mv.drew ?_))).mono ?_); rintro e wq ⟨rfl, hmq⟩; have hmq2 : Mv (fun k => k = p) w4 wq := (by first | exact hmq | exact undrewMv hmq | exact undrewMv (undrewMv hmq)); exact ⟨rfl, HERR.out _ hmq2⟩
          | ok x =>
            obtain ⟨m2, l3⟩ := x
            have hE3 := HE2.out
            simp only at hE3
            have HE3 := Lib.hid hE3; clear hE3 HE2
            go_wp2_with fail
            refine HN.out.mono ?_
            rintro e w4 ⟨rfl, rfl⟩
            obtain ⟨hl3, hm24⟩ := HSH.out m2 l3 rfl
            have HPI := Lib.hid (fun W' (m : Mv (fun _ => False) w4 W') => HMB.out W' (HCL.out.pis.other m (fun _ _ f => f) (fun _ _ f => f)))
            have HMO := Lib.hid (fun w3 w8 (A' : Option Addr) (c2 : Nat) (h3 : PIs w3 p l3 v us L) (m3 : Mv (fun k => k = p) w4 w3) ho hg => ClsIs.more (w4 := w8) (A' := A') (c' := c2) H1.out HB3.out HCL.out h3 m3 hl3 hm24 ho hg)
            have hfew := HCL.out.few
            have HL3 := Lib.hid hl3
            clear HMB HSH hl3
            go_wp2_with fail
            go_region_law (first
              | (go_simp; go_at_call 106; (with_reducible refine (HPI.out _ (by repeat (first | exact Mv.refl _ w4 | refine Mv.drew ?_))).mono ?_); rintro e wq ⟨b2, n2, c2, rfl, hn2, ho2, h3, hm3⟩; subst hn2; have hmq : Mv (fun k => k = p) w4 wq := (by first | exact hm3 | exact undrewMv hm3 | exact undrewMv (undrewMv hm3)); have hbq : wq.heap[b3]? = _ := (hmq.block _ (blk_lt HCL.out.box) (by omega)).trans HCL.out.box; have bq0 := cell_blk hbq 0; simp only [List.getElem?_toArray, List.getElem?_cons_zero] at bq0; have HBQ := Lib.hid hbq; have HMQ3 := Lib.hid hmq; have HO2 := Lib.hid ho2; have H3 := Lib.hid h3; clear hbq hmq ho2 h3 hm3)
              | (refine step_append_g rfl (.tmp 21) (.tmp 23) 98 128 (.agg #[.int .i32 0, .int .i32 0]) 2 8 infoSpan Try.underlying98 rfl (by decide) rfl (b3 + 1) (.slice A acc.length c') acc.length (spC acc) rfl (own_mv (S := fun k => k = p) HCL.out.own (by repeat (first | exact HMQ3.out | refine Mv.drew ?_)) fun k hk e => by have := (HCL.out.own.lt k hk).1; omega) (some ⟨b2, 0, none⟩) m2.length c2 (spC m2) rfl (by first | exact own_read HO2.out | exact own_read (own_mv (S := fun _ => False) HO2.out (by repeat (first | exact Mv.refl _ wq | refine Mv.drew ?_)) fun _ _ f => f)) (spC_len m2) (spC_one m2) (by unfold maxLen; omega) (by omega) (by have := blk_lt HBQ.out; exact Nat.le_trans this (Mv.size (S := fun _ => False) (by repeat (first | exact Mv.refl _ wq | refine Mv.drew ?_)))) ?_; intro v4 w7 ho4 hg4; obtain ⟨A4, c4, rfl, -, -, -⟩ := own_rdg ho4; have hg5 : wq.grownBy w7 (Value.slice A acc.length c').ownBlock := (by first | exact hg4 | exact ungrown hg4); have hC7 := HMO.out wq w7 A4 c4 H3.out HMQ3.out ho4 hg5; have hb7 : w7.heap[b3]? = _ := ((Mv.refl (fun i => (Value.slice A acc.length c').ownBlock = some i) wq).grown hg5 fun _ _ h => h).block _ (blk_lt HBQ.out) (fun e => by have := (HCL.out.own.lt _ e).1; omega) |>.trans HBQ.out; have b70 := cell_blk hb7 0; have f70 := free_blk hb7 0; simp only [List.getElem?_toArray, List.getElem?_cons_zero] at b70; have HC7 := Lib.hid hC7; clear hC7 hb7 ho4 hg4 hg5)
              | fail)
            all_goals
              go_wp2
              go_roundw
              case rel => exact ⟨acc ++ m2, l3, A4, c4, HC7.out, HE3.out⟩
              case measure => rw [HC7.out.pis.restN, HCL.out.pis.restN]; exact HL3.out
  · have d94 : decide (nowP l.tail = 94) = false := by simp [h94]
    simp only [d94, Bool.false_eq_true, if_false] at hR
    have HR := Lib.hid hR; clear hR d94
    go_enter Try.func103, Try.ntmps103
    go_wp2_with fail
    rw [← HW.out]
    go_wp2_with fail
    refine HP.out.mono ?_
    rintro e w1 ⟨rfl, h1, hm1⟩
    have hN := now_any p _ v us L w1 h1
    have g94 : (nowP l.tail == 94) = false := by rw [beq_eq_false_iff_ne]; exact h94
    generalize nowP l.tail = cn at hN g94
    have HN := Lib.hid hN
    have HM1 := Lib.hid hm1; have HP1 := Lib.hid h1; clear hm1 h1 hN
    go_wp2_with fail
    refine HN.out.mono ?_
    rintro e w2 ⟨rfl, rfl⟩
    obtain ⟨Wb, hWb⟩ : ∃ Wb, Wb = w2.alloc (.cells #[.slice none 0 0, .bool false, .int .u64 0, .int .u64 0, .int .u64 0, .int .u64 0] 124) := ⟨_, rfl⟩
    obtain ⟨b3, hb3⟩ : ∃ b3, b3 = w2.heap.size := ⟨_, rfl⟩
    have hbb : RowKit.Below w2.heap.size w2 Wb := by rw [hWb]; exact (RowKit.Below.refl _ _).alloc (Nat.le_refl _) _
    have HB3 := Lib.hid (show W.heap.size ≤ b3 by rw [hb3]; exact HM1.out.size)
    have hbx : Wb.heap[b3]? = some (.cells #[.slice none 0 0, .bool false, .int .u64 0, .int .u64 0, .int .u64 0, .int .u64 0] 124 (0, 0)) := by rw [hWb, hb3]; exact heap_alloc_new _ _
    have hpb := HP1.out.below hbb
    have hmb := HM1.out.trans (Mv.of_below hbb (fun k => k = p)) fun _ _ h => h
    have HWb := Lib.hid hWb; have HBE := Lib.hid hb3
    have bc0 := cell_blk hbx 0
    have bc1 := cell_blk hbx 1
    have bf0 := free_blk hbx 0
    simp only [List.getElem?_toArray, List.getElem?_cons_zero, List.getElem?_cons_succ] at bc0 bc1
    obtain ⟨lq, hlq⟩ : ∃ lq, lq = l.tail := ⟨_, rfl⟩
    have HLQ := Lib.hid (show lq.length ≤ l.length by have := HTL.out; rw [hlq]; omega)
    have HPQ := Lib.hid hpb
    rw [← hlq] at HPQ HR
    have HBX := Lib.hid hbx; have HMQ := Lib.hid hmb; clear hbx hmb hpb hbb hWb hb3 HM1 HP1 HN h94
    go_wp2_with fail
    rw [← HWb.out, ← HBE.out]
    obtain ⟨wm, hwm⟩ : ∃ wm, wm = Wb := ⟨_, rfl⟩
    subst hwm
    clear bc0 bc1 bf0 HTL hlq
    obtain ⟨r1, hr1⟩ : ∃ r1, r1 = memberP lq := ⟨_, rfl⟩
    have hmb := member_any p lq v us L wm HPQ.out
    have hsh : ∀ m l2, r1 = .ok (m, l2) → l2.length < lq.length ∧ m.length ≤ 4 := fun m l2 e => by rw [hr1] at e; exact ⟨(memberP_shr HPQ.out.ok e).lt, memberP_len e⟩
    have hR := HR.out
    rw [← hr1] at hmb hR
    have HMB := Lib.hid hmb; have HSH := Lib.hid hsh; clear hmb hsh hr1 HR
    cases r1 with
    | error f =>
      have HR := Lib.hid hR; clear hR
      go_wp2_with fail
      refine HMB.out.mono ?_
      rintro e w3 ⟨rfl, hm3⟩
      have HM3 := Lib.hid hm3; clear hm3
      unfold flE
      go_wp2
      rw [HR.out]
      exact ⟨rfl, rfl, HZ.out.err ((Mvd.box (HMQ.out.trans HM3.out fun _ _ h => h)).mv)⟩
    | ok x =>
      obtain ⟨m, l2⟩ := x
      simp only at hR
      obtain ⟨hl2, hm4⟩ := HSH.out m l2 rfl
      obtain ⟨R2, hR2⟩ : ∃ R2, membersP l2.length m l2 = R2 := ⟨_, rfl⟩
      rw [hR2] at hR
      have HR := Lib.hid hR; have HR2 := Lib.hid hR2; clear hR hR2 HSH
      go_wp2_with fail
      refine HMB.out.mono ?_
      rintro e w3 ⟨b, n, c, rfl, hn, ho, h3, hm3⟩
      have hbx : w3.heap[b3]? = _ := (hm3.block _ (blk_lt HBX.out) (by have := H1.out.lt; have := HB3.out; omega)).trans HBX.out
      have bc0 := cell_blk hbx 0
      have bf0 := free_blk hbx 0
      simp only [List.getElem?_toArray, List.getElem?_cons_zero] at bc0
      have HC := Lib.hid (ClsIs.first H1.out HB3.out HBX.out HMQ.out hn ho h3 hm3 (by have := HLQ.out; omega) hm4)
      clear hn ho h3 hm3 hbx HMB HMQ HPQ HBX hl2 hm4
      go_wp2_with fail
      go_loopw [] (fun wr => ∃ (acc : Spans) (l' : List Pc) (A : Option Addr) (c : Nat), Aside (ClsIs W wr p b3 l l' v us L false acc A c) ∧ Aside (membersP l'.length acc l' = R2)) (fun wr => restN p wr)
      case atStart => exact ⟨m, l2, _, _, HC.out, HR2.out⟩
      case round =>
        obtain ⟨acc, l', A, c', HCL, HE⟩ := hrel
        clear HC bc0 bf0
        have hE := HE.out
        rw [members_step acc HCL.out.pis.ok] at hE
        have HN := Lib.hid (now_any p l' v us L wr HCL.out.pis)
        have hp3 : p < b3 := by have := H1.out.lt; have := HB3.out; omega
        by_cases h93 : nowP l' = 93
        · rw [if_pos h93] at hE
          have hR := HR.out
          rw [← hE] at hR
          simp only at hR
          have HR9 := Lib.hid hR
          have hn2 : nowP l' ≠ -1 := by rw [h93]; decide
          have HP := Lib.hid (pass_any p l' v us L wr HCL.out.pis hn2)
          have hf : L.length + l'.tail.length ≤ 256 := by have := tail_lt HCL.out.pis.ok; have := HCL.out.len; have := H1.out.few; omega
          have hN := HN.out
          rw [h93] at hN
          have HNN := Lib.hid hN
          clear hN HN hE hR HR hn2 h93
          have HR := HR9
          go_wp2_with fail
          refine HNN.out.mono ?_
          rintro e w4 ⟨rfl, rfl⟩
          go_wp2_with fail
          refine HP.out.mono ?_
          rintro e w5 ⟨rfl, h5, hm5⟩
          have hbx : w5.heap[b3]? = _ := (hm5.block _ (blk_lt HCL.out.box) (by omega)).trans HCL.out.box
          have bc0 := cell_blk hbx 0
          have bc1 := cell_blk hbx 1
          have bc2 := cell_blk hbx 2
          have bc3 := cell_blk hbx 3
          have bc4 := cell_blk hbx 4
          have bc5 := cell_blk hbx 5
          simp only [List.getElem?_toArray, List.getElem?_cons_zero, List.getElem?_cons_succ] at bc0 bc1 bc2 bc3 bc4 bc5
          have HA := Lib.hid (add_any p _ v us L _ acc false w5 h5 ((own_mv HCL.out.own hm5 fun k hk e => by have := (HCL.out.own.lt k hk).1; omega).lower (by omega)) hf)
          have HM5 := Lib.hid (Mvd.box (v := v) (HCL.out.mv.trans hm5 fun _ _ h => h)); clear hm5 h5 hbx hf
          go_wp2_with fail
          refine HA.out.mono ?_
          rintro e w6 ⟨v', us', rfl, h6, hm6⟩
          have hq9 := HM5.out.trans hm6
          go_wp2_with (first
            | (refine wpList_store_agg (o := ⟨none, _, _, _, _, _⟩) ?_ 85 (.tmp 2) (.tmp 30) ?_ (w.heap.size) 0 (partL (compP (.set acc false) L).1) ?_ ?_ 85 zP (HZ.out.at' H.out hq9.mv) ?_ ?_ ?_ ?_; rfl; rfl; rfl; rfl; kernel_rfl; (show 0 + 9 ≤ 9; decide); exact partL_one _; intro w9 hw9 hm9 hs9; rw [spl9 _ rfl] at hw9)
            | fail)
          refine bodyPost_cell rfl (w.heap.size) 85 (partL (compP (.set acc false) L).1).toArray rfl hw9 (by kernel_rfl) (by kernel_rfl) rfl ?_
          rw [HR.out]
          exact HZ.out.fin H.out h6 hq9 hm9
        · rw [if_neg h93] at hE
          have g93 : (nowP l' != 93) = true := by rw [bne_iff_ne]; exact h93
          obtain ⟨r2, hr2⟩ : ∃ r2, r2 = memberP l' := ⟨_, rfl⟩
          have hmb := fun W' (k : PIs W' p l' v us L) => member_any p l' v us L W' k
          have hsh : ∀ m l2, r2 = .ok (m, l2) → l2.length < l'.length ∧ m.length ≤ 4 := fun m l2 e => by rw [hr2] at e; exact ⟨(memberP_shr HCL.out.pis.ok e).lt, memberP_len e⟩
          rw [← hr2] at hmb hE
          have HMB := Lib.hid hmb; have HSH := Lib.hid hsh; clear hmb hsh hr2
          have bc0 := cell_blk HCL.out.box 0
          simp only [List.getElem?_toArray, List.getElem?_cons_zero] at bc0
          have HE2 := Lib.hid hE; clear hE HE h93
          generalize nowP l' = cn at g93 HN
          cases r2 with
          | error f =>
            have hE := HE2.out
            simp only at hE
            have hR := HR.out
            rw [← hE] at hR
            simp only at hR
            have HR9 := Lib.hid hR; clear hE hR HE2 HR
            have HR := HR9
            go_wp2_with fail
            refine HN.out.mono ?_
            rintro e w4 ⟨rfl, rfl⟩
            have HPI := Lib.hid (fun W' (m : Mv (fun _ => False) w4 W') => HMB.out W' (HCL.out.pis.other m (fun _ _ f => f) (fun _ _ f => f)))
            have HERR := Lib.hid (show ∀ W', Mv (fun k => k = p) w4 W' → OutP p v L w R (flE f) W' from fun W' m => by rw [HR.out]; exact ⟨rfl, HZ.out.err (Mvd.box (v := v) (HCL.out.mv.trans m fun _ _ h => h)).mv⟩)
            clear HMB HSH
            unfold flE at HPI
            go_wp2_with fail
            refine wp_region_any (by kernel_rfl) ?_
            try (change wpAny _ _ _ _ _ _ _ (World.drew _))
            refine wpAny_take (i := 0) (v := ?_) rfl (by kernel_rfl) (by kernel_rfl) (by kernel_rfl) (fun _ _ _ h => h) (Or.inl ⟨by rfl, ?_⟩) ?_
            rotate_left
            · intro w; go_simp; try with_reducible rfl
            refine wpAny_take (i := 2) (v := ?_) rfl (by kernel_rfl) (by kernel_rfl) (by kernel_rfl) (fun _ _ _ h => h) (Or.inl ⟨by rfl, ?_⟩) ?_
            rotate_left
            · intro w; go_simp; try with_reducible rfl
            refine wpAny_ready (rs := [1, 3]) (by kernel_rfl) (by simp) ?_
            refine AllReady.cons rfl (fun K hK => ?_) ?_
            · go_simp
              refine hK _ _ ?_
              clear hK K
              refine wpAny_ready (rs := [3]) (by kernel_rfl) (by simp) ?_
              refine AllReady.cons rfl (fun K hK => ?_) AllReady.nil
              · go_simp
                (with_reducible refine (HPI.out _ (by repeat (first | exact Mv.refl _ w4 | refine Mv.drew ?_))).mono ?_); rintro e wq ⟨rfl, hmq⟩; have hmq2 : Mv (fun k => k = p) w4 wq := (by first | exact hmq | exact undrewMv hmq | exact undrewMv (undrewMv hmq)); exact ⟨rfl, HERR.out _ hmq2⟩
            refine AllReady.cons rfl (fun K hK => ?_) AllReady.nil
            · go_simp
              (with_reducible refine (HPI.out _ (by repeat (first | exact Mv.refl _ w4 | refine Mv.drew ?_))).mono ?_); rintro e wq ⟨rfl, hmq⟩; have hmq2 : Mv (fun k => k = p) w4 wq := (by first | exact hmq | exact undrewMv hmq | exact undrewMv (undrewMv hmq)); exact ⟨rfl, HERR.out _ hmq2⟩
          | ok x =>
            obtain ⟨m2, l3⟩ := x
            have hE3 := HE2.out
            simp only at hE3
            have HE3 := Lib.hid hE3; clear hE3 HE2
            go_wp2_with fail
            refine HN.out.mono ?_
            rintro e w4 ⟨rfl, rfl⟩
            obtain ⟨hl3, hm24⟩ := HSH.out m2 l3 rfl
            have HPI := Lib.hid (fun W' (m : Mv (fun _ => False) w4 W') => HMB.out W' (HCL.out.pis.other m (fun _ _ f => f) (fun _ _ f => f)))
            have HMO := Lib.hid (fun w3 w8 (A' : Option Addr) (c2 : Nat) (h3 : PIs w3 p l3 v us L) (m3 : Mv (fun k => k = p) w4 w3) ho hg => ClsIs.more (w4 := w8) (A' := A') (c' := c2) H1.out HB3.out HCL.out h3 m3 hl3 hm24 ho hg)
            have hfew := HCL.out.few
            have HL3 := Lib.hid hl3
            clear HMB HSH hl3
            go_wp2_with fail
            go_region_law (first
              | (go_simp; go_at_call 106; (with_reducible refine (HPI.out _ (by repeat (first | exact Mv.refl _ w4 | refine Mv.drew ?_))).mono ?_); rintro e wq ⟨b2, n2, c2, rfl, hn2, ho2, h3, hm3⟩; subst hn2; have hmq : Mv (fun k => k = p) w4 wq := (by first | exact hm3 | exact undrewMv hm3 | exact undrewMv (undrewMv hm3)); have hbq : wq.heap[b3]? = _ := (hmq.block _ (blk_lt HCL.out.box) (by omega)).trans HCL.out.box; have bq0 := cell_blk hbq 0; simp only [List.getElem?_toArray, List.getElem?_cons_zero] at bq0; have HBQ := Lib.hid hbq; have HMQ3 := Lib.hid hmq; have HO2 := Lib.hid ho2; have H3 := Lib.hid h3; clear hbq hmq ho2 h3 hm3)
              | (refine step_append_g rfl (.tmp 21) (.tmp 23) 98 128 (.agg #[.int .i32 0, .int .i32 0]) 2 8 infoSpan Try.underlying98 rfl (by decide) rfl (b3 + 1) (.slice A acc.length c') acc.length (spC acc) rfl (own_mv (S := fun k => k = p) HCL.out.own (by repeat (first | exact HMQ3.out | refine Mv.drew ?_)) fun k hk e => by have := (HCL.out.own.lt k hk).1; omega) (some ⟨b2, 0, none⟩) m2.length c2 (spC m2) rfl (by first | exact own_read HO2.out | exact own_read (own_mv (S := fun _ => False) HO2.out (by repeat (first | exact Mv.refl _ wq | refine Mv.drew ?_)) fun _ _ f => f)) (spC_len m2) (spC_one m2) (by unfold maxLen; omega) (by omega) (by have := blk_lt HBQ.out; exact Nat.le_trans this (Mv.size (S := fun _ => False) (by repeat (first | exact Mv.refl _ wq | refine Mv.drew ?_)))) ?_; intro v4 w7 ho4 hg4; obtain ⟨A4, c4, rfl, -, -, -⟩ := own_rdg ho4; have hg5 : wq.grownBy w7 (Value.slice A acc.length c').ownBlock := (by first | exact hg4 | exact ungrown hg4); have hC7 := HMO.out wq w7 A4 c4 H3.out HMQ3.out ho4 hg5; have hb7 : w7.heap[b3]? = _ := ((Mv.refl (fun i => (Value.slice A acc.length c').ownBlock = some i) wq).grown hg5 fun _ _ h => h).block _ (blk_lt HBQ.out) (fun e => by have := (HCL.out.own.lt _ e).1; omega) |>.trans HBQ.out; have b70 := cell_blk hb7 0; have f70 := free_blk hb7 0; simp only [List.getElem?_toArray, List.getElem?_cons_zero] at b70; have HC7 := Lib.hid hC7; clear hC7 hb7 ho4 hg4 hg5)
              | fail)
            all_goals
              go_wp2
              go_roundw
              case rel => exact ⟨acc ++ m2, l3, A4, c4, HC7.out, HE3.out⟩
              case measure => rw [HC7.out.pis.restN, HCL.out.pis.restN]; exact HL3.out
end
end Go.Proofs.Ytfohmepjedehfab
