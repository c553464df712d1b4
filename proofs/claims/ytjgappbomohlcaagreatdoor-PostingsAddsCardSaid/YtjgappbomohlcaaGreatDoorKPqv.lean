/-
  An index: Cut.
-/
import Derived.Test.YtjgappbomohlcaaGreatDoorKPqu
namespace Go.Proofs.YtjgappbomohlcaaGreatDoor
section
set_option linter.unusedVariables false
set_option linter.unusedSimpArgs false
open Go.RowKit
theorem cut_no {L : List Ser} {n : Nat} (h : refIn L n = false) : cutL L n = L := by
  unfold cutL
  rw [List.filter_eq_self]
  intro s hs
  have : ¬ s.1 = n := fun e => by
    have := refIn_iff.2 ⟨s, hs, e⟩
    rw [h] at this; cases this
  simp [this]
theorem labAt_cut {L : List Ser} {n : Nat} (m : Nat) : labAt (cutL L n) m = if m = n then none else labAt L m := by
  by_cases e : m = n
  · subst e
    rw [if_pos rfl, labAt_none, ← Bool.not_eq_true, refIn_iff]
    rintro ⟨s, hs, e⟩
    have := (List.mem_filter.1 hs).2
    simp [e] at this
  · rw [if_neg e]
    unfold labAt cutL
    rw [List.find?_filter]
    congr 2
    funext s
    by_cases h : s.1 = m
    · simp [h, e]
    · simp [h]
theorem refK_cut {L : List Ser} (hL : Wf L) {n : Nat} {l : List Lb} (hm : (n, l) ∈ L) (key : ByteArray) : refK (cutL L n) key = if key = keyB l then none else refK L key := by
  have hrl := hL.right _ hm
  unfold refK cutL
  rw [List.find?_filter]
  by_cases e : key = keyB l
  · rw [if_pos e, Option.map_eq_none_iff, List.find?_eq_none]
    intro s hs
    by_cases h : s.1 = n
    · simp [h]
    · have : ¬ keyB s.2 = key := fun e2 => h (by
        have := keyB_inj (hL.right s hs) hrl (e2.trans e)
        have := hL.lab hs hm this
        rw [this])
      simp [this]
  · rw [if_neg e]
    congr 1
    have : ∀ M : List Ser, (∀ s ∈ M, s ∈ L) → (M.find? fun a => (!decide (a.1 = n)) && decide (keyB a.2 = key)) = M.find? fun s => decide (keyB s.2 = key) := by
      intro M
      induction M with
      | nil => intro _; rfl
      | cons s r ih =>
        intro hM
        rw [List.find?_cons, List.find?_cons, ih fun t ht => hM t (List.mem_cons_of_mem _ ht)]
        by_cases h : s.1 = n
        · have h2 : s = (n, l) := hL.one (hM s List.mem_cons_self) hm h
          have : decide (keyB s.2 = key) = false := by rw [decide_eq_false_iff_not, h2]; exact fun e2 => e e2.symm
          rw [this, Bool.and_false]
        · rw [decide_eq_false h]; simp
    simpa using this L fun s hs => hs
open Classical in
/-- What the two first maps lose, when a series goes. -/
theorem ix_cut {W w4 w5 : World} {xb : Nat} {L : List Ser} {G : Gh} (hi : IxE W xb L G) {n : Nat} {l : List Lb} (hm : (n, l) ∈ L)
    (hm4 : MapG KU isSlice w4 G.sb (delG G.sE n)) (mv4 : Mv (fun k => k = G.sb) W w4)
    (hm5 : MapG KT isNum w5 G.rb (delG G.rE (keyB l))) (ht5 : w4.mapTurned w5 G.rb) :
    ∃ G1, IxF w5 xb (cutL L n) (restF L) G1 ∧ Mv (fun k => G.tg k ≠ .no) W w5 ∧ (∀ k, G1.tg k ≠ .no → G.tg k ≠ .no) ∧ ∀ b, G.tg b = .lab n → G1.tg b = .no ∧ w5.heap[b]? = W.heap[b]? := by
  have mv5 := mvTurned ht5
  have hne : G.sb ≠ G.rb := fun e => by have h1 := hi.st; have h2 := hi.rt; rw [e, h2] at h1; cases h1
  have hk : ∀ k, k < W.heap.size → k ≠ G.sb → k ≠ G.rb → w5.heap[k]? = W.heap[k]? := fun k h1 h2 h3 => (mv5.block k (Nat.lt_of_lt_of_le h1 mv4.size) h3).trans (mv4.block k h1 h2)
  have hkt : ∀ k, G.tg k ≠ .no → G.tg k ≠ .ser → G.tg k ≠ .ref → w5.heap[k]? = W.heap[k]? := fun k h1 h2 h3 => hk k (hi.al k h1) (fun e => h2 (by rw [e]; exact hi.st)) (fun e => h3 (by rw [e]; exact hi.rt))
  have hsl : G.sb < w4.heap.size := Nat.lt_of_lt_of_le (hi.al G.sb (by rw [hi.st]; simp)) mv4.size
  have htg : ∀ k, G.tg k ≠ .lab n → (if G.tg k = Tag.lab n then Tag.no else G.tg k) = G.tg k := fun k h => if_neg h
  refine ⟨{ G with tg := fun k => if G.tg k = Tag.lab n then Tag.no else G.tg k, sE := delG G.sE n, rE := delG G.rE (keyB l) },
    ⟨(hkt _ (by rw [hi.xt]; simp) (by rw [hi.xt]; simp) (by rw [hi.xt]; simp)).trans hi.box, ?_, hm4.moved (mv5.block _ hsl hne), ?_, fun m => ?_, fun s hs => ?_, hm5, ?_, fun key => ?_, ?_, ?_, fun k hk' => ?_⟩, ?_, fun k hk' => ?_, fun b hb => ?_⟩
  · show (if G.tg xb = _ then _ else _) = _
    rw [if_neg (by rw [hi.xt]; simp)]; exact hi.xt
  · show (if G.tg G.sb = _ then _ else _) = _
    rw [if_neg (by rw [hi.st]; simp)]; exact hi.st
  · rw [lk_del hi.sm.nd, labAt_cut]
    by_cases e : m = n
    · rw [if_pos e, if_pos e]; rfl
    · rw [if_neg e, if_neg e, hi.sl]
  · obtain ⟨hs, hsn⟩ := List.mem_filter.1 hs
    have hsn : s.1 ≠ n := by simpa using hsn
    obtain ⟨l1, l2⟩ := hi.la s hs
    refine ⟨own_moved l1 fun b hb => hkt b (by rw [l2 b hb]; simp) (by rw [l2 b hb]; simp) (by rw [l2 b hb]; simp), fun b hb => ?_⟩
    show (if G.tg b = _ then _ else _) = _
    rw [if_neg (by rw [l2 b hb]; simpa using hsn)]; exact l2 b hb
  · show (if G.tg G.rb = _ then _ else _) = _
    rw [if_neg (by rw [hi.rt]; simp)]; exact hi.rt
  · rw [lk_del hi.rm.nd, refK_cut hi.wf hm]
    by_cases e : key = keyB l
    · rw [if_pos e, if_pos e]; rfl
    · rw [if_neg e, if_neg e, hi.rl]
  · refine (hi.po.moved fun k hp => hkt k (fun e => by rw [e] at hp; exact hp) (fun e => by rw [e] at hp; exact hp) (fun e => by rw [e] at hp; exact hp)).retag ⟨rfl, rfl, rfl, rfl, rfl⟩ fun k hp => ?_
    exact if_neg (fun e => by rw [e] at hp; exact hp)
  · exact hi.wf.cut n
  · have h9 : (if G.tg k = Tag.lab n then Tag.no else G.tg k) ≠ .no := hk'
    split at h9
    · exact absurd rfl h9
    · exact Nat.lt_of_lt_of_le (hi.al k h9) (Nat.le_trans mv4.size mv5.size)
  · exact (mv4.mono fun i _ e => by rw [e, hi.st]; simp).trans mv5 fun i _ e => by rw [e, hi.rt]; simp
  · have h9 : (if G.tg k = Tag.lab n then Tag.no else G.tg k) ≠ .no := hk'
    split at h9
    · exact absurd rfl h9
    · exact h9
  · refine ⟨?_, hkt b (by rw [hb]; simp) (by rw [hb]; simp) (by rw [hb]; simp)⟩
    show (if G.tg b = _ then _ else _) = _
    rw [if_pos hb]
theorem right_few {l : List Lb} (h : rightP l = 0) : Few l := ⟨by have := (right_parts h).1; omega, fun x hx => by have := right_short h hx; omega⟩
theorem right_nodup {l : List Lb} (h : rightP l = 0) : l.Nodup := by
  rw [List.nodup_iff_pairwise_ne, List.pairwise_iff_getElem]
  intro i j hi hj hij e
  exact right_once h hj (by rw [← e]; exact List.mem_take_iff_getElem.2 ⟨i, by omega, rfl⟩)
section
set_option maxHeartbeats 6400000
set_option maxRecDepth 100000
theorem icut_any {w : World} {xb : Nat} {L : List Ser} {G : Gh} (h : IxE w xb L G) (hT : Tabs w) {n : Nat} (hn : n < 18446744073709551616) :
    Calls Tryz.prog 44 #[.pointer (some ⟨xb, 0, none⟩), .int .u64 (n : Nat)] w fun e w' => e = .returned (.int .i64 (cutC L n : Nat)) ∧ IxOut w xb G (cutL L n) w' := by
  have HM := Lib.hid (imade_any h.box)
  have c0 := cell_blk h.box 0
  simp only [List.getElem?_toArray, List.getElem?_cons_succ, List.getElem?_cons_zero] at c0
  have hl := h.look_ser hn true
  rw [if_pos rfl] at hl
  cases hla : labAt L n with
  | none =>
    rw [hla] at hl
    simp only [Option.map_none, Option.getD_none, Option.isSome_none] at hl
    have hr := labAt_none.1 hla
    have hC : cutC L n = 101 := by unfold cutC; rw [hr]; rfl
    rw [hC, cut_no hr]
    have HH := Lib.hid h
    clear h hla hT hC hr
    go_enter Tryz.func44, Tryz.ntmps44
    go_wp2_with (first
      | (go_at_call 47; refine HM.out.mono ?_; rintro e w1 ⟨rfl, rfl⟩)
      | fail)
    go_ret
    exact ⟨rfl, IxOut.same HH.out (Below.refl _ _)⟩
  | some l =>
    rw [hla] at hl
    simp only [Option.map_some, Option.getD_some, Option.isSome_some] at hl
    have hmem := labAt_some hla
    have hr0 := h.wf.right _ hmem
    simp only at hr0
    have hC : cutC L n = 0 := by unfold cutC; rw [refIn_iff.2 ⟨_, hmem, rfl⟩]; rfl
    rw [hC]
    obtain ⟨ho, htl⟩ := h.la _ hmem
    simp only at ho htl
    obtain ⟨A, c, hv, hrd⟩ := own_rdL ho
    rw [hv] at hl htl ho
    have HOWN := Lib.hid (show ∀ b, A.map (·.block) = some b → G.tg b = .lab n from fun b hb => by
      rcases ho.2 with ⟨e, _⟩ | ⟨g, cap, cur, e, _⟩
      · injection e with e; rw [e] at hb; cases hb
      · injection e with e; rw [e] at hb htl; exact htl b (by simpa [Value.ownBlock] using hb))
    have hfew : l.length ≤ 16 := (right_parts hr0).1
    have HP := Lib.hid (put_bytes_any A c l w hT hrd (right_few hr0))
    have hb1 : (bytesP l).1 = 0 := by unfold bytesP; rw [if_neg (by omega)]
    rw [hb1] at HP
    have hks := key_fits hr0
    have HKB := Lib.hid (show keyB l = mkB (bytesP l).2 from rfl)
    unfold keyB at hks
    generalize (bytesP l).2 = ys at HP hks HKB
    have HH := Lib.hid h
    have HMEM := Lib.hid hmem
    have HRD := Lib.hid hrd
    have HTL := Lib.hid htl
    have HR0 := Lib.hid hr0
    have hslt := h.al G.sb (by rw [h.st]; simp)
    have hrlt := h.al G.rb (by rw [h.rt]; simp)
    have hxl := h.xlt
    clear h hT hla hmem hr0 hC ho htl hv hrd hb1
    go_enter Tryz.func44, Tryz.ntmps44
    go_upto_region 8 with (first
      | (go_at_call 47; refine HM.out.mono ?_; rintro e w1 ⟨rfl, rfl⟩)
      | (go_at_call 50; refine HP.out.mono ?_; rintro e w1 ⟨A1, c1, rfl, ho1, hb1⟩
         have hx1 := HH.out.below hb1
         have hbx := hx1.box
         have k0 := cell_blk hbx 0
         simp only [List.getElem?_toArray, List.getElem?_cons_succ, List.getElem?_cons_zero] at k0
         have HB1 := Lib.hid hb1
         have HO1 := Lib.hid ho1
         have HX1 := Lib.hid hx1
         have HBX := Lib.hid hbx
         clear hb1 ho1 hx1 hbx)
      | (at_delete
         refine wpList_delG rfl _ _ 71 rfl Tryz.underlying71 HX1.out.sm rfl n rfl hn ?_
         intro w5 hm5 ht5
         have HM5 := Lib.hid hm5; have HT5 := Lib.hid ht5
         clear hm5 ht5)
      | fail)
    have mv5 : Mv (fun k => k = G.sb) w w5 := (Mv.of_below HB1.out _).trans (mvTurned HT5.out) fun _ _ e => e
    have hxs : ¬ xb = G.sb := fun e => by have h1 := HH.out.xt; have h2 := HH.out.st; rw [← e, h1] at h2; cases h2
    have hrs : ¬ G.rb = G.sb := fun e => by have h1 := HH.out.rt; have h2 := HH.out.st; rw [← e, h1] at h2; cases h2
    have k1 := cell_blk (w := w5.drew) ((mv5.block xb hxl hxs).trans HH.out.box) 1
    simp only [List.getElem?_toArray, List.getElem?_cons_succ, List.getElem?_cons_zero] at k1
    have ho5 : w5.drew.ownsRow w.heap.size 5 1 (.slice A1 ys.length c1) ys.length (ys.map Bv) := own_moved HO1.out fun b hb => (mvTurned HT5.out).block b (HO1.out.lt b hb).2 fun e => by have := (HO1.out.lt b hb).1; omega
    obtain ⟨A1', c1', e1, hrd1, -⟩ := own_rd ho5
    injection e1 with e1 _ e3
    subst e1 e3
    have hcv := run_str w5.drew A1 c1 ys hrd1
    obtain ⟨w6, hr6, hm6, ht6⟩ := (MapG.moved (w' := w5.drew) HH.out.rm (mv5.block G.rb hrlt hrs)).drop (t := 72) (e := 23) Tryz.underlying72 (a := mkB ys) hks 0
    have HR6 : (Builtin.delete_ #[72, 9] 0 #[.map (some G.rb), .string (mkB ys)]).run Tryz.prog w5.drew = .ok (.tuple #[]) w6 := hr6
    obtain ⟨G1, hi1, m1, s1, t1⟩ := ix_cut (w4 := w5.drew) (w5 := w6) HH.out HMEM.out (HM5.out.moved rfl) mv5.drew (by rw [HKB.out]; exact hm6) ht6
    rw [show restF L = restF (dropL L n 0) by rw [dropL_zero]] at hi1
    have HI1 := Lib.hid hi1
    have HM1 := Lib.hid m1
    have HS1 := Lib.hid s1
    have HT1 := Lib.hid t1
    clear mv5 hxs hrs ho5 hrd1 hr6 hm6 ht6 hi1 m1 s1 t1
    dsimp only [Act.put]
    go_cut [] (fun wx => Aside (wx = w6))
    case first =>
      go_region
      all_goals
        go_wp2_with fail
        go_meet
        exact (show Aside _ from rfl)
    case rest =>
    obtain rfl := hcut.out
    clear HR6 hcv k1 hcut
    go_wp2_with fail
    have hrc : Rd wc A (lcells l) := HRD.out.blk fun b _ hb => (HT1.out b (HOWN.out b hb)).2
    have HRC := Lib.hid hrc
    clear hrc
    go_loopw [43] (fun s43 wr => ∃ (k : Nat) (Gk : Gh), s43 = .int .i64 k ∧ k ≤ l.length ∧ Aside (IxF wr xb (cutL L n) (restF (dropL L n k)) Gk) ∧ Aside (Mv (fun k => G1.tg k ≠ .no) wc wr) ∧ Aside (∀ k, Gk.tg k ≠ .no → G1.tg k ≠ .no ∨ wc.heap.size ≤ k)) (fun s43 _ => l.length - (intOf s43).toNat)
    case atStart => exact ⟨0, G1, rfl, Nat.zero_le _, (show Aside _ from HI1.out), (show Aside _ from Mv.refl _ _), (show Aside _ from fun k hk => .inl hk)⟩
    case round =>
      obtain ⟨k, Gk, rfl, hk, IK, MK, SK⟩ := hrel
      have k0 : (0 : Int) ≤ (k : Int) := by omega
      by_cases hlt : k < l.length
      · have k1 : (k : Int) < (l.length : Int) := by omega
        have hrdk := Mv.rd0 MK.out HRC.out (fun _ b hb => by rw [(HT1.out b (HOWN.out b hb)).1]; simp)
        obtain ⟨b, off, rfl, c0, c1⟩ := lb_at hrdk hlt
        have hs := right_short HR0.out (List.getElem_mem hlt)
        have hsm : SmallM (dropL L n k) := ⟨by unfold dropL; rw [List.length_map]; have := HH.out.wf.few; omega, fun s hs => by
          unfold dropL at hs
          obtain ⟨t, ht, rfl⟩ := List.mem_map.1 hs
          have h16 := (right_parts (HH.out.wf.right t ht)).1
          split
          · simp only [List.length_drop]; omega
          · exact h16⟩
        have hne : hasL (dropL L n k) l[k] ≠ [] := by
          rw [hasL_drop HH.out.wf n k _ HMEM.out, if_pos (by rw [List.drop_eq_getElem_cons hlt]; exact List.mem_cons_self)]
          exact List.ne_nil_of_mem (hasL_mem.2 ⟨_, HMEM.out, rfl, List.getElem_mem hlt⟩)
        have hp := unpost_any (IK.out.below ((Below.refl _ wr).alloc (Nat.le_refl _) (.cells #[.string l[k].1, .string l[k].2] 80))) hsm l[k] n hn (by omega) (by omega) hne
        rw [restF_unpost HH.out.wf HMEM.out hlt (right_nodup HR0.out)] at hp
        have HPO := Lib.hid hp
        clear hp hsm hs hrdk hne
        generalize l[k] = x at c0 c1 HPO
        obtain ⟨x1, x2⟩ := x
        simp only at c0 c1 HPO
        go_wp2_with (first
          | (go_at_call 72; refine HPO.out.mono ?_; rintro e w3 ⟨rfl, hto⟩; have HTO := Lib.hid hto; clear hto)
          | fail)
        go_roundw
        case rel =>
          obtain ⟨G2, i2, m2, s2⟩ := HTO.out
          have hws : (wr.alloc (.cells #[.string x1, .string x2] 80)).heap.size = wr.heap.size + 1 := World.size_alloc _ _
          have hsz := MK.out.size
          refine ⟨k + 1, G2, by go_num, by omega, (show Aside _ from i2), (show Aside _ from (MK.out.alloc _).trans m2 fun i hi h => ?_), (show Aside _ from fun i hi => ?_)⟩
          · rcases SK.out i h with h | h
            · exact h
            · omega
          · rcases s2 i hi with h | h
            · exact SK.out i h
            · exact .inr (by omega)
        case measure => simp [intOf]; omega
      · obtain rfl : k = l.length := by omega
        go_wp2
        go_ret
        have hi9 := IK.out
        rw [restF_cut HH.out.wf HMEM.out] at hi9
        refine ⟨rfl, Gk, hi9, HM1.out.trans MK.out fun i _ e => HS1.out i e, fun i hi => ?_⟩
        rcases SK.out i hi with h | h
        · exact .inl (HS1.out i h)
        · exact .inr (Nat.le_trans HM1.out.size h)
end
end
end Go.Proofs.YtjgappbomohlcaaGreatDoor
