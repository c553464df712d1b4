/-
  An index: a label less of a series, the whole.
-/
import Derived.Test.YtjgappbomohlcaaGreatDoorK04
namespace Go.Proofs.YtjgappbomohlcaaGreatDoor
section
set_option linter.unusedVariables false
set_option linter.unusedSimpArgs false
open Go.RowKit
theorem len_zero {κ : Type} [DecidableEq κ] {es : List (κ × Value)} : es.length = 0 ↔ ∀ a, lkG es a = none := by
  constructor
  · intro h a
    rw [List.eq_nil_of_length_eq_zero h]; rfl
  · intro h
    cases es with
    | nil => rfl
    | cons e r =>
      have := h e.1
      rw [lk_none] at this
      rw [List.map_cons] at this
      exact absurd List.mem_cons_self this
theorem PostE.none {w : World} {G : Gh} {F : Fp} (h : PostE w G F) {nm : ByteArray} {g : ByteArray → Option (List Nat)} (hg : F nm = some g) : (G.iE nm).length = 0 ↔ ∀ v, g v = none := by
  rw [len_zero]
  obtain ⟨_, _, i3⟩ := h.im nm g hg
  refine ⟨fun h v => ?_, fun h v => by rw [i3 v, h v]; rfl⟩
  have := i3 v
  rw [h v] at this
  cases hv : g v with
  | none => rfl
  | some l => rw [hv] at this; cases this
theorem IxTm.trans {w w1 w2 : World} {xb : Nat} {L L1 : List Ser} {F F1 : Fp} {G G1 : Gh} (hm : Mv (fun k => G.tg k ≠ .no) w w1) (hs : ∀ k, G1.tg k ≠ .no → G.tg k ≠ .no ∨ w.heap.size ≤ k) (k : IxTm w1 xb G1 L1 F1 w2) : IxTo w xb G L1 F1 w2 := IxTo.trans (L := L) (F := F) hm hs k.to
open Classical in
theorem unpostF_at {F : Fp} {nm vl : ByteArray} {g : ByteArray → Option (List Nat)} {l l' : List Nat} {n : Nat} (hg : F nm = some g) (hv : g vl = some l) (hl : l' = l.filter fun m => !decide (m = n)) :
    unpostF F (nm, vl) n = setF F nm (if ∀ v, setVP g vl (if l' = [] then none else some l') v = none then none else some (setVP g vl (if l' = [] then none else some l'))) := by
  unfold unpostF listF valsF
  simp only [hg, Option.getD_some, hv, ← hl]
theorem unpostF_kept {F : Fp} {nm vl : ByteArray} {g : ByteArray → Option (List Nat)} {l l' : List Nat} {n : Nat} (hg : F nm = some g) (hv : g vl = some l) (hl : l' = l.filter fun m => !decide (m = n)) (h : l' ≠ []) :
    unpostF F (nm, vl) n = setF F nm (some (setVP g vl (some l'))) := by
  rw [unpostF_at hg hv hl, if_neg h, if_neg (fun e => by have := e vl; rw [setVP_same] at this; cases this)]
theorem unpostF_val {F : Fp} {nm vl : ByteArray} {g : ByteArray → Option (List Nat)} {l l' : List Nat} {n : Nat} (hg : F nm = some g) (hv : g vl = some l) (hl : l' = l.filter fun m => !decide (m = n)) (h : l' = []) (h2 : ¬ ∀ v, setVP g vl none v = none) :
    unpostF F (nm, vl) n = setF F nm (some (setVP g vl none)) := by
  rw [unpostF_at hg hv hl, if_pos h, if_neg h2]
theorem unpostF_name {F : Fp} {nm vl : ByteArray} {g : ByteArray → Option (List Nat)} {l l' : List Nat} {n : Nat} (hg : F nm = some g) (hv : g vl = some l) (hl : l' = l.filter fun m => !decide (m = n)) (h : l' = []) (h2 : ∀ v, setVP g vl none v = none) :
    unpostF F (nm, vl) n = setF F nm none := by
  rw [unpostF_at hg hv hl, if_pos h, if_pos h2]
section
set_option maxHeartbeats 6400000
set_option maxRecDepth 100000
theorem unpost_any {w : World} {xb : Nat} {L M : List Ser} {G : Gh} (h : IxF w xb L (restF M) G) (hM : SmallM M) (x : Lb) (n : Nat) (hn : n < 18446744073709551616) (h1 : x.1.size ≤ 1000) (h2 : x.2.size ≤ 1000) (hne : hasL M x ≠ []) :
    Calls Tryz.prog 72 #[.pointer (some ⟨xb, 0, none⟩), .agg #[.string x.1, .string x.2], .int .u64 (n : Nat)] w fun e w' => e = .returned (.tuple #[]) ∧ IxTo w xb G L (unpostF (restF M) x n) w' := by
  obtain ⟨nm, vl⟩ := x
  simp only at h1 h2
  obtain ⟨hpl, hil⟩ := post_le h.po hM
  have hgx : ∃ g l, restF M nm = some g ∧ g vl = some l ∧ l ≠ [] := by
    refine ⟨vlF M nm, hasL M (nm, vl), ?_, ?_, hne⟩
    · unfold restF; rw [if_pos ⟨vl, hne⟩]
    · unfold vlF; rw [if_neg hne]
  obtain ⟨F, hF⟩ : ∃ F, F = restF M := ⟨_, rfl⟩
  rw [← hF] at h hil hgx ⊢
  obtain ⟨g, l, hg, hv, hl0⟩ := hgx
  clear hF hM hne
  obtain ⟨W, hW⟩ : ∃ W, W = (w.alloc (.cells #[.string nm, .string vl] 80)).alloc (.cells #[.int .u64 (n : Nat)] 23) := ⟨_, rfl⟩
  have hb0 : Below w.heap.size w W := by rw [hW]; exact ((Below.refl _ w).alloc (Nat.le_refl _) _).alloc (by simp) _
  have hbx : W.heap[w.heap.size]? = some (.cells #[.string nm, .string vl] 80 (0, 0)) := by
    rw [hW]; exact (Below.heap_alloc _ _ _ (by simp)).trans (heap_alloc_new w _)
  have hbn : W.heap[w.heap.size + 1]? = some (.cells #[.int .u64 (n : Nat)] 23 (0, 0)) := by
    rw [hW]; have := heap_alloc_new (w.alloc (.cells #[.string nm, .string vl] 80)) (.cells #[.int .u64 (n : Nat)] 23); rwa [World.size_alloc] at this
  have hi := h.below hb0
  obtain ⟨ow, otg⟩ := hi.po.ow nm g vl l hg hv
  obtain ⟨AV, cV, hsl, hrd, -⟩ := own_rdU ow
  rw [hsl] at ow otg
  obtain ⟨gb, rfl⟩ : ∃ gb, AV = some ⟨gb, 0, none⟩ := by
    rcases ow.2 with ⟨_, h0⟩ | ⟨g', cap', cur, e, _⟩
    · exact absurd (List.eq_nil_of_length_eq_zero h0) hl0
    · injection e with e1; exact ⟨g', e1⟩
  have hgt := otg gb rfl
  have hgl := (ow.lt gb rfl).2
  have ng0 : w.heap.size + 1 ≠ gb := fun e => by
    have := h.al gb (by rw [hgt]; simp); omega
  have ngb : ¬ w.heap.size = gb := fun e => by
    have := h.al gb (by rw [hgt]; simp); omega
  have HTW0 := Lib.hid (show ¬ G.tg w.heap.size = .row nm vl from fun e => absurd (h.al _ (by rw [e]; simp)) (Nat.lt_irrefl _))
  have HALW := Lib.hid (show ∀ k, w.heap.size ≤ k → G.tg k = .no from fun k hk => Classical.byContradiction fun e => by have := h.al k e; omega)
  have HTN := Lib.hid (HALW.out w.heap.size (Nat.le_refl _))
  have hlk := fun q => IxF.look_name (w := W.drewN q) (hi.po.moved fun _ _ => rfl) (s := nm) (by unfold maxLen; omega) false
  have hlv := fun q => IxF.look_val (w := W.drewN q) (hi.po.moved fun _ _ => rfl) hg (v := vl) (by unfold maxLen; omega) false
  rw [hg] at hlk
  rw [hv, hsl] at hlv
  simp only [Option.map_some, Option.getD_some, Bool.false_eq_true, if_false] at hlk hlv
  have c2 := cell_blk hi.box 2
  have d0 := cell_blk hbx 0; have d1 := cell_blk hbx 1
  simp only [List.getElem?_toArray, List.getElem?_cons_succ, List.getElem?_cons_zero] at c2 d0 d1
  have hst := fun (w4 : World) (u : Value) (hs : isSlice u = true) (hk : w4.heap[G.mb nm]? = W.heap[G.mb nm]?) => (MapG.moved (hi.po.im nm g hg).1 hk).store (t := 96) (e := 49) Tryz.underlying96 (by have := (hil nm g hg).1; unfold maxLen; omega) (a := vl) (show vl.size ≤ maxLen by unfold maxLen; omega) hs
  have HST := Lib.hid hst
  have HMT := Lib.hid (hi.po.im nm g hg).2.1
  have hmbl := (hi.po.im nm g hg).1.lt
  have HBN := Lib.hid hbn
  have HOW := Lib.hid ow
  have HNG := Lib.hid ng0
  have HLV := Lib.hid hlv
  have HBX := Lib.hid hbx
  have hbl := lt_of_block hbx
  have HI := Lib.hid hi
  have HGG := Lib.hid hg
  have HVV := Lib.hid hv
  have hW0 := Lib.hid hW
  have HB0 := Lib.hid hb0
  have HGT := Lib.hid hgt
  have HOT := Lib.hid otg
  obtain ⟨l', hl'⟩ : ∃ l', l' = l.filter fun m => !decide (m = n) := ⟨_, rfl⟩
  have hll : l'.length ≤ 4097 := by rw [hl']; exact Nat.le_trans (List.length_filter_le _ _) ((hil nm g hg).2 vl l hv)
  have HLL := Lib.hid hl'
  have HNGB := Lib.hid ngb
  clear hst hi hg hv hbx hbn hW hil h ow otg hrd hgt hl0 hb0 hl' ngb ng0 hlv
  go_enter Tryz.func72, Tryz.ntmps72
  go_wp2_with fail
  rw [← hW0.out]
  go_quiet (fail)
  go_upto_region 2 with (fail)
  obtain ⟨wa, hwa⟩ : ∃ wa, wa = W.drewN nq := ⟨_, rfl⟩
  rw [← hwa]
  have hka : ∀ k : Nat, wa.drew.heap[k]? = W.heap[k]? := fun k => by rw [hwa]; rfl
  have hma : Mv (fun _ => False) W wa.drew := by rw [hwa]; exact ⟨rfl, rfl, rfl, Nat.le_refl _, fun _ _ _ => rfl⟩
  have hla := HLV.out (nq + 1)
  rw [show W.drewN (nq + 1) = wa.drew by rw [hwa]; rfl] at hla
  have e0 := cell_blk (w := wa.drew) ((hka _).trans HBX.out) 0; have e1 := cell_blk (w := wa.drew) ((hka _).trans HBX.out) 1
  simp only [List.getElem?_toArray, List.getElem?_cons_succ, List.getElem?_cons_zero] at e0 e1
  have HDEL := Lib.hid (del_any (w := wa.drew) n ((hka _).trans HBN.out) (own_moved HOW.out fun b _ => hka b) HNG.out)
  rw [← HLL.out] at HDEL
  have HMA := Lib.hid hma
  have HKA := Lib.hid hka
  clear hma hka hwa d0 d1 c2 hlk
  go_cut [] (fun wx => Aside (IxTm W xb G L (setF F nm (some (setVP g vl (some l')))) wx))
  case first =>
    have hmf : ∀ (fn : Fn) (first cap : Array Value) (w : World), (Instr.makeFunc fn first cap).run Tryz.prog w = .ok (.func fn first cap) w := fun _ _ _ _ => rfl
    have HNM := Lib.hid (show ¬ G.mb nm = gb from fun e => by have h9 := HMT.out; rw [e, HGT.out] at h9; cases h9)
    go_region_with (
      go_at_call 91
      go_loud (
        refine HDEL.out.mono ?_
        rintro e w3 ⟨rfl, ho3, hm3⟩
        have hm3' := (HMA.out.mono (T := fun k => k = gb) fun _ _ f => f.elim).trans hm3 fun _ _ e => e
        obtain ⟨w4, hr4, hm4, ht4⟩ := HST.out w3 (.slice (some ⟨gb, 0, none⟩) l'.length cV) rfl (hm3'.block _ hmbl HNM.out)
        have HR4 : (Instr.mapUpdate 96 (.map (some (G.mb nm))) (.string vl) (.slice (some ⟨gb, 0, none⟩) l'.length cV)).run Tryz.prog w3 = .ok () w4 := hr4
        have c3' := cell_blk (w := w3) ((hm3'.block _ hbl HNGB.out).trans HBX.out) 1
        simp only [List.getElem?_toArray, List.getElem?_cons_succ, List.getElem?_cons_zero] at c3'
        have HO3 := Lib.hid ho3; have HM3 := Lib.hid hm3'; have HM4 := Lib.hid hm4; have HT4 := Lib.hid ht4
        clear hr4 ho3 hm3 hm3' hm4 ht4))
    all_goals
      go_wp2_with fail
      go_meet
      exact (show Aside _ from ix_setList HI.out HGG.out HO3.out (HM3.out.mono fun i _ e => by rw [e]; exact HGT.out) (fun b hb => .inr (by have : gb = b := by injection hb
                                                                                                                                            rw [← this]; exact HGT.out)) HM4.out HT4.out)
  case rest =>
    clear hla e0 e1 HDEL
    obtain ⟨G1, hi1, m1, s1, hmb, hpb⟩ := hcut.out
    clear hcut
    have hg1 := setF_same F nm (some (setVP g vl (some l')))
    have hv1 := setVP_same g vl (some l')
    obtain ⟨F1, hF1⟩ : ∃ F1, F1 = setF F nm (some (setVP g vl (some l'))) := ⟨_, rfl⟩
    obtain ⟨g1, hgg1⟩ : ∃ g1, g1 = setVP g vl (some l') := ⟨_, rfl⟩
    rw [← hgg1] at hF1 hg1 hv1 hi1
    rw [← hF1] at hi1 hg1
    obtain ⟨ow1, -⟩ := hi1.po.ow nm g1 vl l' hg1 hv1
    obtain ⟨A1, c1, hsl1, -, -⟩ := own_rdU ow1
    have hlv1 := IxF.look_val (w := wc) hi1.po hg1 (v := vl) (by unfold maxLen; omega) false
    rw [hv1, hsl1, hmb] at hlv1
    simp only [Option.map_some, Option.getD_some, Bool.false_eq_true, if_false] at hlv1
    have d1 := cell_blk (w := wc) ((m1.block _ hbl (by rw [HTN.out]; simp)).trans HBX.out) 1
    simp only [List.getElem?_toArray, List.getElem?_cons_succ, List.getElem?_cons_zero] at d1
    have hm1 := (hi1.po.im nm g1 hg1).1
    have hz1 := hi1.po.none hg1
    have hlen1 := fun ty => hm1.len (t := 96) Tryz.underlying96 ty
    rw [hmb] at hm1 hlen1
    obtain ⟨m, hm⟩ : ∃ m, m = l'.length := ⟨_, rfl⟩
    rw [← hm] at hlv1 hll
    have hpl1 := (hi1.po.pm)
    rw [hpb] at hpl1
    have hbl1 : w.heap.size < wc.heap.size := Nat.lt_of_lt_of_le hbl m1.size
    have hbx1 := (m1.block _ hbl (by rw [HTN.out]; simp)).trans HBX.out
    have hn1 : G1.tg w.heap.size = .no := Classical.byContradiction fun e => by
      rcases s1 _ e with h | h
      · exact h HTN.out
      · omega
    have HI1 := Lib.hid hi1
    have HM1 := Lib.hid m1
    have HS1 := Lib.hid s1
    have HF1 := Lib.hid hF1
    have HG1 := Lib.hid hg1
    have HGV := Lib.hid hgg1
    have HV1 := Lib.hid hv1
    have HMB := Lib.hid hmb
    have HPB := Lib.hid hpb
    have HMM := Lib.hid hm1
    have HBX1 := Lib.hid hbx1
    have HN1 := Lib.hid hn1
    have HMm := Lib.hid hm
    clear hi1 m1 s1 hF1 hg1 hgg1 hv1 hmb hpb hm1 hbx1 hn1 ow1 hsl1 hm hpl1
    by_cases hz : m = 0
    · have hl0 : l' = [] := List.eq_nil_of_length_eq_zero (by rw [← HMm.out]; exact hz)
      have g0 : ((m : Int) == 0) = true := by rw [beq_iff_eq]; omega
      have HL0 := Lib.hid hl0
      clear hl0 hz hlen1 hz1
      obtain ⟨es, hes⟩ : ∃ es, es = (delG (G1.iE nm) vl).length := ⟨_, rfl⟩
      have HES := Lib.hid hes
      have hes0 : es = 0 ↔ ∀ v, setVP g vl none v = none := by
        rw [hes, len_zero]
        have h3 := fun v => lk_del HMM.out.nd vl v
        have h4 := fun v => (HI1.out.po.im nm g1 HG1.out).2.2 v
        have h5 : ∀ v, lkG (delG (G1.iE nm) vl) v = none ↔ setVP g vl none v = none := fun v => by
          rw [h3 v]
          by_cases e : v = vl
          · rw [if_pos e, e, setVP_same]; exact ⟨fun _ => rfl, fun _ => rfl⟩
          · rw [if_neg e, h4 v, HGV.out, setVP_other _ _ e, setVP_other _ _ e, Option.map_eq_none_iff]
        exact ⟨fun h v => (h5 v).1 (h v), fun h v => (h5 v).2 (h v)⟩
      have HES0 := Lib.hid hes0
      clear hes hes0
      have hbl2 := hbl1
      by_cases ha : es = 0
      · have g1' : ((es : Int) == 0) = true := by rw [beq_iff_eq]; omega
        have HA := Lib.hid ha
        clear ha
        go_wp2_with (first
          | (at_delete
             refine wpList_delG rfl _ _ 96 rfl Tryz.underlying96 HMM.out rfl vl rfl (show vl.size ≤ maxLen by unfold maxLen; omega) ?_
             intro w5 hm5 ht5
             have hln := fun ty => hm5.len (t := 96) Tryz.underlying96 ty
             rw [← HES.out] at hln
             have HM5 := Lib.hid hm5; have HT5 := Lib.hid ht5
             clear hm5 ht5)
          | fail)
        obtain ⟨G2, hi2, m2, s2, hmb2, hpb2⟩ := ix_delVal (w1 := w5) HI1.out HG1.out (vl := vl) (by rw [HMB.out]; exact HM5.out) (by rw [HMB.out]; exact HT5.out)
        have hpm2 := hi2.po.pm
        rw [hpb2, HPB.out] at hpm2
        obtain ⟨w6, hr6, hm6, ht6⟩ := (MapG.moved (w' := w5.drew) hpm2 rfl).drop (t := 73) (e := 96) Tryz.underlying73 (a := nm) (show nm.size ≤ maxLen by unfold maxLen; omega) 0
        have HR6 : (Builtin.delete_ #[73, 9] 0 #[.map (some G.pb), .string nm]).run Tryz.prog w5.drew = .ok (.tuple #[]) w6 := hr6
        have hbxi := hi2.box
        rw [hpb2, HPB.out] at hbxi
        have k2 := cell_blk (w := w5.drew) hbxi 2
        have k0 := cell_blk (w := w5.drew) ((m2.block _ hbl1 (by rw [HN1.out]; simp)).trans HBX1.out) 0
        simp only [List.getElem?_toArray, List.getElem?_cons_succ, List.getElem?_cons_zero] at k2 k0
        have HI2 := Lib.hid hi2; have HM2 := Lib.hid m2; have HS2 := Lib.hid s2; have HM6 := Lib.hid hm6; have HT6 := Lib.hid ht6; have HPB2 := Lib.hid hpb2
        clear hi2 m2 s2 hm6 ht6 hpb2 hmb2 hr6 hpm2 hbxi hln
        go_region
        go_wp2_with fail
        go_end0
        refine ⟨rfl, ?_⟩
        have h3 := ix_delName (w1 := w6) (HI2.out.moved (w1 := w5.drew) (Nat.le_refl _) fun _ _ => rfl) (nm := nm) (by rw [HPB2.out, HPB.out]; exact HM6.out) (by rw [HPB2.out, HPB.out]; exact HT6.out)
        have h4 := IxTo.trans (L := L) (F := F) HM2.out.drew HS2.out h3.to
        refine post_fin HB0.out (IxTo.trans (L := L) (F := F) HM1.out HS1.out h4) ?_
        rw [HF1.out, HGV.out, setF_setF, setF_setF]
        exact (unpostF_name HGG.out HVV.out HLL.out HL0.out (HES0.out.1 HA.out)).symm
      · have g1' : ((es : Int) == 0) = false := by rw [beq_eq_false_iff_ne]; omega
        have HA := Lib.hid ha
        clear ha
        go_wp2_with (first
          | (at_delete
             refine wpList_delG rfl _ _ 96 rfl Tryz.underlying96 HMM.out rfl vl rfl (show vl.size ≤ maxLen by unfold maxLen; omega) ?_
             intro w5 hm5 ht5
             have hln := fun ty => hm5.len (t := 96) Tryz.underlying96 ty
             rw [← HES.out] at hln
             have HM5 := Lib.hid hm5; have HT5 := Lib.hid ht5
             clear hm5 ht5)
          | fail)
        go_end0
        refine ⟨rfl, ?_⟩
        have h3 := ix_delVal (w1 := w5) HI1.out HG1.out (vl := vl) (by rw [HMB.out]; exact HM5.out) (by rw [HMB.out]; exact HT5.out)
        refine post_fin HB0.out (IxTo.trans (L := L) (F := F) HM1.out HS1.out h3.to) ?_
        rw [HF1.out, HGV.out, setF_setF, setVP_setVP]
        exact (unpostF_val HGG.out HVV.out HLL.out HL0.out (fun h => HA.out (HES0.out.2 h))).symm
    · have g0 : ((m : Int) == 0) = false := by rw [beq_eq_false_iff_ne]; omega
      have g1' : ((((G1.iE nm).length : Nat) : Int) == 0) = false := by
        rw [beq_eq_false_iff_ne]
        intro e
        have := hz1.1 (by omega) vl
        rw [HV1.out] at this; cases this
      have HZ := Lib.hid hz
      clear hz hz1
      go_wp2_with fail
      go_end0
      refine ⟨rfl, ?_⟩
      have hfin : F1 = unpostF F (nm, vl) n := by
        rw [HF1.out, HGV.out, unpostF_kept HGG.out HVV.out HLL.out (fun e => HZ.out (by rw [HMm.out, e]; rfl))]
      rw [← hfin]
      exact post_fin HB0.out ⟨G1, HI1.out, HM1.out, HS1.out⟩ rfl
end
end
end Go.Proofs.YtjgappbomohlcaaGreatDoor
