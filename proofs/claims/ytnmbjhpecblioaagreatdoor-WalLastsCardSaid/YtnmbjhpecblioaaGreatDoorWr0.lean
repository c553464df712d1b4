/-
  All records of a log's segments.
-/
import Derived.Test.YtnmbjhpecblioaaGreatDoorWx
import Derived.Test.YtnmbjhpecblioaaGreatDoorFa
namespace Go.Proofs.YtnmbjhpecblioaaGreatDoor
set_option linter.unusedVariables false
set_option linter.unusedSimpArgs false
open Go.Maps Go.RowKit
/-- The bytes of a segment. -/
def bytesW (L : List Fl) (n : Nat) : List UInt8 := match lookL L (titleN n) with | none => [] | some f => f.2.1
/-- The records of segments, why there are no more, and where the last one is cut. -/
def openR (L : List Fl) (last : Nat) : List Nat → List (List UInt8) × Nat × Option Nat
  | [] => ([], 0, none)
  | n :: r => if (allF (bytesW L n)).2.2 = 0 then ((allF (bytesW L n)).1 ++ (openR L last r).1, (openR L last r).2)
    else if (allF (bytesW L n)).2.2 = 6 ∧ n = last then ((allF (bytesW L n)).1, 0, some (allF (bytesW L n)).2.1) else ([], (allF (bytesW L n)).2.2, none)
def cutW (L : List Fl) (last : Nat) : Option Nat → List Fl
  | none => L
  | some k => (cutD L (titleN last) (k : Int)).2
theorem AllIs.mv {w1 w2 : World} {B : Nat} {v : Value} {P : List (Option Addr × Nat × List UInt8)} {S : Nat → Prop} (h : AllIs w1 B v P) (m : Mv S w1 w2) (hS : ∀ k, S k → k < B) : AllIs w2 B v P :=
  ⟨own_moved h.1 fun g hg => m.block g (h.1.lt g hg).2 fun hs => by have := hS g hs; have := (h.1.lt g hg).1; omega,
   fun p hp => own_moved (h.2 p hp) fun g hg => m.block g ((h.2 p hp).lt g hg).2 fun hs => by have := hS g hs; have := ((h.2 p hp).lt g hg).1; omega⟩
def WReadOut (w : World) (lb db mb room : Nat) (es : List Ent) (seg cnt sure : Nat) (q : List (List UInt8) × Nat × Option Nat) (e : Ending) (w' : World) : Prop :=
  (q.2.1 ≠ 0 ∧ e = .returned (.tuple #[.slice none 0 0, .int .i64 (q.2.1 : Nat)]) ∧ Below w.heap.size w w') ∨
  (q.2.1 = 0 ∧ ∃ v P es', e = .returned (.tuple #[v, .int .i64 0]) ∧ (AllIs w' w.heap.size v P ∧ P.length ≤ 1100000000) ∧ P.map (·.2.2) = q.1 ∧ LogE w' lb db mb room es' seg cnt sure ∧ es'.map val = cutW (es.map val) seg q.2.2 ∧ Mv (footW lb db mb es) w w' ∧ ∀ k, foot db mb es' k → foot db mb es k ∨ w.heap.size ≤ k)
section
set_option maxHeartbeats 3200000
set_option maxRecDepth 100000
variable {w : World} {lb db mb room : Nat} {es : List Ent} {seg cnt sure : Nat}
theorem read_bytes (h : DiskE w db mb room es) (n : Nat) (hl : lookL (es.map val) (titleN n) ≠ none) : Calls Tryz.prog 36 #[.pointer (some ⟨db, 0, none⟩), .string (titleN n)] w fun e w' =>
    ∃ A c, e = .returned (.tuple #[.slice A (bytesW (es.map val) n).length c, .int .i64 0]) ∧ w'.ownsRow w.heap.size 5 1 (.slice A (bytesW (es.map val) n).length c) (bytesW (es.map val) n).length ((bytesW (es.map val) n).map Bv) ∧ (bytesW (es.map val) n).length ≤ c ∧ c ≤ maxLen ∧ Below w.heap.size w w' := by
  refine (dread_any h (titleN n) (by have := title_le n; unfold maxLen; omega)).mono ?_
  intro e w' hR
  unfold ReadOut at hR
  unfold bytesW
  rw [look_val] at hl ⊢
  cases ho : lookE es (titleN n) with
  | none => rw [ho] at hl; exact absurd rfl hl
  | some x =>
    rw [ho] at hR
    obtain ⟨A, c, rfl, ho, hb⟩ := hR
    obtain ⟨A', c', e', hr, -, hc, hm⟩ := own_rd ho
    injection e' with e1 e2 e3
    subst e1; subst e3
    exact ⟨A, c, rfl, ho, hc, hm, hb⟩
theorem cut_ok {L : List Fl} {n k : Nat} (h : lookL L (titleN n) ≠ none) (hk : k ≤ (bytesW L n).length) : (cutD L (titleN n) (k : Int)).1 = 0 := by
  unfold cutD
  unfold bytesW at hk
  cases hl : lookL L (titleN n) with
  | none => exact absurd hl h
  | some f =>
    rw [hl] at hk
    simp only at hk ⊢
    rw [if_neg (by omega)]
theorem wread_any (h : LogE w lb db mb room es seg cnt sure) (A : Option Addr) (c : Nat) (S : List Nat) (hx : Rd w A (S.map Ni)) (hc : S.length ≤ c) (hcm : c ≤ 9223372036854775807) (hS : S.length ≤ 64) (hin : ∀ n ∈ S, (1 ≤ n ∧ n ≤ 99999999) ∧ lookL (es.map val) (titleN n) ≠ none) :
    Calls Tryz.prog 66 #[.pointer (some ⟨lb, 0, none⟩), .slice A S.length c] w (WReadOut w lb db mb room es seg cnt sure (openR (es.map val) seg S)) := by
  obtain ⟨i0, hi, hz0, hz1, hz2⟩ := info_parts infoBytes
  have H := Lib.hid h; have HX := Lib.hid hx; have HIN := Lib.hid hin
  have hsg := h.seg1
  obtain ⟨c0, c1, c2, c3⟩ := h.cells
  have hbl : ∀ n, (bytesW (es.map val) n).length ≤ 16777216 := fun n => by
    unfold bytesW
    cases hl : lookL (es.map val) (titleN n) with
    | none => exact Nat.zero_le _
    | some f =>
      obtain ⟨e, he, rfl⟩ := List.mem_map.1 (look_mem hl).1
      exact h.disk.len he
  have HBL := Lib.hid hbl
  obtain ⟨L, hL⟩ : ∃ L, L = es.map val := ⟨_, rfl⟩
  rw [← hL] at HBL HIN ⊢
  have HL := Lib.hid hL
  clear h hx hin hL hbl
  go_enter Tryz.func66, Tryz.ntmps66
  go_wp2
  go_step3
  go_wp2
  go_step3
  go_wp2
  go_loopw [6, 18] (fun v s18 wr => ∃ (k : Nat) (P : List (Option Addr × Nat × List UInt8)), s18 = .int .i64 k ∧ k ≤ S.length ∧ P.length ≤ 16777216 * k ∧ Aside (AllIs wr w.heap.size v P) ∧ Aside (Below w.heap.size w wr) ∧
      Aside (openR L seg S = (P.map (·.2.2) ++ (openR L seg (S.drop k)).1, (openR L seg (S.drop k)).2))) (fun _ s18 _ => S.length - (intOf s18).toNat)
  case atStart => exact ⟨0, [], rfl, by omega, by simp, ⟨World.ownsRow_nil _ _ _ _, by simp⟩, Below.refl _ _, (show openR L seg S = (([] : List (Option Addr × Nat × List UInt8)).map (·.2.2) ++ (openR L seg (S.drop 0)).1, (openR L seg (S.drop 0)).2) from by simp)⟩
  case round =>
    obtain ⟨k, P, rfl, hk, hPk, hP, BW, hall⟩ := hrel
    have k0 : (0 : Int) ≤ (k : Int) := by omega
    obtain ⟨Av, cv, rfl, -⟩ := own_rd hP.out.1
    by_cases hlt : k < S.length
    · have k1 : (k : Int) < (S.length : Int) := by omega
      have k2 : (k : Int) ≤ (c : Int) := by omega
      obtain ⟨n, hn⟩ : ∃ n, S[k]? = some n := ⟨_, List.getElem?_eq_getElem hlt⟩
      obtain ⟨hn1, hnl⟩ := HIN.out n (List.mem_of_getElem? hn)
      obtain ⟨ab, ao, rfl, hac⟩ := rd_at HX.out (k := k) (v := Ni n) (by rw [List.getElem?_map, hn]; rfl)
      have l0 := hac wr BW.out
      unfold Ni at l0
      have hdr : S.drop k = n :: S.drop (k + 1) := by
        obtain ⟨h1, h2⟩ := List.getElem?_eq_some_iff.1 hn
        rw [List.drop_eq_getElem_cons h1, h2]
      have HOP := Lib.hid (show openR L seg (S.drop k) = _ from by rw [hdr, openR])
      have hbn := HBL.out n
      have HLn := H.out.below BW.out
      have HS := Lib.hid (fun (W' : World) (hb : Below wr.heap.size wr W') => (HLn.below hb).cells.1)
      have HTT := Lib.hid (fun (W' : World) (hb : Below wr.heap.size wr W') => title_any (n : Int) (by omega) (by omega) W' (HLn.below hb).tab.now)
      have hrd := fun (W' : World) (hb : Below wr.heap.size wr W') => read_bytes (HLn.below hb).disk n (by rw [← HL.out]; exact hnl)
      rw [← HL.out] at hrd
      have HNL := Lib.hid hnl
      obtain ⟨bs, hbs⟩ : ∃ bs, bs = bytesW L n := ⟨_, rfl⟩
      rw [← hbs] at hrd hbn HOP
      have HBS := Lib.hid hbs
      have HRD := Lib.hid hrd
      have HALL := Lib.hid hall.out; have HP := Lib.hid hP.out; have HB := Lib.hid BW.out
      have HBc := Lib.hid (Below.refl wr.heap.size wr)
      obtain ⟨e0, e1, e2, e3⟩ := HLn.cells
      clear hn hnl hac hdr hrd hbs HLn hall hP BW
      go_wp2_with fail
      go_region_held3 (fun W' => W'.cell? ⟨lb, 0, none⟩ = some (.pointer (some ⟨db, 0, none⟩))) (first | exact HS.out _ HBc.out | exact HS.out _ (below_drewN HBc.out _)) (first
        | (go_at_call 12; go_must (refine (HTT.out _ (by first | exact HBc.out | exact below_drewN HBc.out _)).mono ?_; rintro e wq ⟨rfl, hbq⟩; (try (have hq1 := undrewB hbq; clear hbq; have hbq := hq1; clear hq1)); have hq1 := HBc.out.trans (hbq.mono HBc.out.size); have HBc := Lib.hid hq1; clear hq1 hbq))
        | (go_at_call 36; go_must (refine (HRD.out _ (by first | exact HBc.out | exact below_drewN HBc.out _)).mono ?_; rintro e wq ⟨A3, c3, rfl, ho3, hc3, hm3, hbq⟩; have HO3 := Lib.hid (ho3.lower (Nat.le_trans HB.out.size HBc.out.size)); clear ho3; (try (have hq1 := undrewB hbq; clear hbq; have hbq := hq1; clear hq1)); have hq1 := HBc.out.trans (hbq.mono HBc.out.size); have HBc := Lib.hid hq1; clear hq1 hbq))
        | fail)
      all_goals
        go_wp2
        go_loopw [6, 11] (fun v s11 wr2 => ∃ (at_ : Nat) (P2 : List (Option Addr × Nat × List UInt8)), s11 = .int .i64 at_ ∧ at_ ≤ bs.length ∧ P2.length ≤ 16777216 * k + at_ ∧ Aside (AllIs wr2 w.heap.size v P2) ∧ Aside (Below w.heap.size w wr2) ∧ Aside (wr2.ownsRow w.heap.size 5 1 (.slice A3 bs.length c3) bs.length (bs.map Bv)) ∧
          Aside (∃ Q, P2.map (·.2.2) = P.map (·.2.2) ++ Q ∧ allF bs = (Q ++ (allF (bs.drop at_)).1, at_ + (allF (bs.drop at_)).2.1, (allF (bs.drop at_)).2.2))) (fun _ s11 _ => bs.length - (intOf s11).toNat)
        case atStart => exact ⟨0, P, rfl, by omega, by omega, (by first | exact HP.out.below HBc.out | exact HP.out.below (below_drewN HBc.out _)), (by first | exact HB.out.trans (HBc.out.mono HB.out.size) | exact below_drewN (HB.out.trans (HBc.out.mono HB.out.size)) _), (by first | exact HO3.out | exact own_moved HO3.out (fun g hg => rfl)), [], by simp, by simp⟩
        case round =>
          obtain ⟨t, P2, rfl, ht, hP2l, hP2, BW2, OW2, hq⟩ := hrel
          have HRD3 := (own_bytes OW2.out)
          obtain ⟨A3', c3', e3', hr3, -⟩ := HRD3
          injection e3' with e3' _ e4'
          subst e3'; subst e4'
          obtain ⟨Av2, cv2, rfl, -⟩ := own_rd hP2.out.1
          have t0 : (0 : Int) ≤ (t : Int) := by omega
          have HBW2 := Lib.hid BW2.out; have HOW2 := Lib.hid OW2.out
          by_cases hlt2 : t < bs.length
          · have t1 : (t : Int) < (bs.length : Int) := by omega
            have t2 : (t : Int) ≤ (bs.length : Int) := by omega
            have t3 : (t : Int) ≤ (c3 : Int) := by omega
            have hne : bs.drop t ≠ [] := by intro h; have := congrArg List.length h; simp at this; omega
            obtain ⟨b3, o3, rfl, -⟩ := hr3.byte hlt2
            have hdl : (bs.drop t).length = bs.length - t := List.length_drop
            have hxd : Rd wr (some ⟨b3, o3 + t, none⟩) ((bs.drop t).map Bv) := by rw [List.map_drop]; exact hr3.dropf t
            have hgp := getF_pos (xs := bs.drop t)
            have hae := allF_err hne
            have hac := allF_cons hne
            obtain ⟨ds, hds⟩ : ∃ ds, ds = bs.drop t := ⟨_, rfl⟩
            have hdd : ∀ j, ds.drop j = bs.drop (t + j) := fun j => by rw [hds, List.drop_drop]
            obtain ⟨Q, hq1, hq2⟩ := hq.out
            rw [← hds] at hq2 hdl hxd hgp hae hac
            have HTr := Lib.hid ((H.out.below HBW2.out).tab.now.steps)
            have hgl := get_len _ _ _ ds wr hdl HTr.out hxd (show bs.length - t ≤ c3 - t by omega) (by omega) (by unfold maxLen at hm3; omega)
            have HGL := Lib.hid hgl
            have HDD := Lib.hid hdd; have HQ1 := Lib.hid hq1; have HQ2 := Lib.hid hq2; have HDL := Lib.hid hdl
            have HP2 := Lib.hid hP2.out
            obtain ⟨r, hr⟩ : ∃ r, r = getF ds := ⟨_, rfl⟩
            rw [← hr] at hae hac hgp HGL
            have HAE := Lib.hid hae; have HAC := Lib.hid hac; have HGP := Lib.hid hgp
            clear hds hdd hdl hxd hgl hr hae hac hgp hq hq1 hq2 hP2 BW2 OW2 hr3 hne
            obtain ⟨zs, m, cc⟩ := r
            simp only at HGL
            go_wp2_with fail
            with_reducible refine HGL.out.mono ?_
            rintro e w2 ⟨v2, rfl, own2, hb2⟩
            obtain ⟨A2, c2', rfl, -⟩ := own_rd own2
            have HW0 := Lib.hid (HBW2.out.trans (hb2.mono HBW2.out.size))
            have HO4 := Lib.hid (own_moved HOW2.out fun g hg => hb2.block g (HOW2.out.lt g hg).2)
            have HP3 := Lib.hid (HP2.out.below hb2)
            have own2' := own2.lower HBW2.out.size
            obtain ⟨y0, y1, y2, y3⟩ := (H.out.below HW0.out).cells
            clear own2 hb2
            by_cases hc0 : cc = 0
            · subst hc0
              obtain ⟨hg1, hg2⟩ := HGP.out rfl
              have hac := HAC.out rfl
              try simp only at hac hg1 hg2
              rw [HDD.out] at hac
              have hmx : t + m ≤ bs.length := by have := HDL.out; omega
              have HST := Lib.hid (show ∃ Q', (P2 ++ [(A2, c2', zs)]).map (·.2.2) = P.map (·.2.2) ++ Q' ∧ allF bs = (Q' ++ (allF (bs.drop (t + m))).1, (t + m) + (allF (bs.drop (t + m))).2.1, (allF (bs.drop (t + m))).2.2) from ⟨Q ++ [zs], by rw [List.map_append, HQ1.out]; simp, by rw [HQ2.out, hac]; simp [Nat.add_assoc]⟩)
              have hap2 : P2.length ≤ 16777216 * 64 + 16777216 := by omega
              have qn : IntKind.i64.wrap ((t : Int) + (m : Int)) = ((t + m : Nat) : Int) := by rw [IntWalk.i64_in _ (by omega)]; omega
              clear hac
              go_wp2_with (first
                | (at_builtin; go_must (refine wpList_append_own _ rfl _ _ 35 rfl w.heap.size 29 i0 (.slice none 0 0) 1 24 Tryz.underlying35 hi hz0 hz1 hz2 rfl (by decide) _ P2.length (P2.map partV) rfl (HP3.out.1.alloc _) ⟨w2.heap.size, 0, none⟩ 1 1 [.slice A2 zs.length c2'] rfl rfl (World.news_of_block (heap_alloc_new _ _)) (by simp [Value.oneCell']) (by unfold maxLen; omega) (by omega) (by have := HW0.out.size; simp; omega) ?_; intro v3 w3 own3 grow3 _))
                | fail)
              have hP4 : AllIs w3 w.heap.size v3 (P2 ++ [(A2, c2', zs)]) := (HP3.out.below ((Below.refl _ w2).alloc (Nat.le_refl _) _)).snoc (own2'.alloc _) own3 grow3
              have hb4 : Below w.heap.size w w3 := (HW0.out.alloc HW0.out.size (.cells #[.slice A2 zs.length c2'] 29)).grown grow3 (by have := HW0.out.size; simp; omega) (fun k h => (HP3.out.1.lt k h).1)
              have HO5 := Lib.hid (own_moved (HO4.out.alloc _) fun g hg => grow3.block g ((HO4.out.alloc _).lt g hg).2 (fun e => own_own HO4.out HP3.out.1 (by decide) hg e.symm))
              have HP4 := Lib.hid hP4; have HB4 := Lib.hid hb4
              clear own3 grow3 hP4 hb4
              go_wp2
              go_roundw
              case rel => exact ⟨t + m, P2 ++ [(A2, c2', zs)], by go_num, hmx, by rw [List.length_append, List.length_singleton]; omega, (show Aside _ from HP4.out), (show Aside _ from HB4.out), (show Aside _ from HO5.out), (show Aside _ from HST.out)⟩
              case measure => simp [intOf]; omega
            · have HCC := Lib.hid hc0
              have hae := HAE.out hc0
              try simp only at hae
              have HAL := Lib.hid (show allF bs = (Q, t, cc) from by rw [HQ2.out, hae]; simp)
              clear hae
              have cc1 : ((cc : Int) != 0) = true := by rw [bne_iff_ne]; omega
              by_cases hsh : cc = 6 ∧ n = seg
              · obtain ⟨h6, hns⟩ := hsh
                subst h6
                have HOQ := Lib.hid (show openR L seg S = (P.map (·.2.2) ++ Q, 0, some t) from by
                  rw [HALL.out, HOP.out, HAL.out]
                  simp only
                  rw [if_neg (by decide), if_pos (by simp [hns])])
                have n1 : ((n : Int) == (seg : Int)) = true := by simp [hns]
                have hL2 := H.out.below HW0.out
                have hcu := fun (W' : World) (hb : Below w2.heap.size w2 W') => cut_any (hL2.below hb).disk (titleN n) (by have := title_le n; unfold maxLen; omega) (t : Int)
                rw [← HL.out] at hcu
                have hok := cut_ok (k := t) HNL.out (by rw [← HBS.out]; omega)
                have hnmd := named_cut (by rw [HL.out]; exact H.out.named) (L := L) (titleN n) (t : Int)
                have hcw : (cutD L (titleN n) (t : Int)).2 = cutW (es.map val) seg (some t) := by unfold cutW; rw [← hns, HL.out]
                generalize cutD L (titleN n) (t : Int) = RA at hcu hok hnmd hcw
                obtain ⟨ra, la⟩ := RA
                simp only at hok hnmd hcw
                subst hok
                have HCU := Lib.hid hcu; have HNMD := Lib.hid hnmd; have HCW := Lib.hid hcw; have HNS := Lib.hid hns
                have HS2 := Lib.hid (fun (W' : World) (hb : Below w2.heap.size w2 W') => (hL2.below hb).cells.1)
                have HTT2 := Lib.hid (fun (W' : World) (hb : Below w2.heap.size w2 W') => title_any (n : Int) (by omega) (by omega) W' (hL2.below hb).tab.now)
                have HL2 := Lib.hid hL2
                clear HBc
                have HBc := Lib.hid (Below.refl w2.heap.size w2)
                clear hcu hnmd hcw hns hL2
                go_wp2_with fail
                go_region_held3 (fun W' => W'.cell? ⟨lb, 0, none⟩ = some (.pointer (some ⟨db, 0, none⟩))) (first | exact HL9.out.cells.1 | exact HS2.out _ HBc.out | exact HS2.out _ (below_drewN HBc.out _)) (first
                  | (go_at_call 12; go_must (refine (HTT2.out _ (by first | exact HBc.out | exact below_drewN HBc.out _)).mono ?_; rintro e wq ⟨rfl, hbq⟩; (try (have hq1 := undrewB hbq; clear hbq; have hbq := hq1; clear hq1)); have hq1 := HBc.out.trans (hbq.mono HBc.out.size); have HBc := Lib.hid hq1; clear hq1 hbq))
                  | (go_at_call 95; go_must (refine (HCU.out _ (by first | exact HBc.out | exact below_drewN HBc.out _)).mono ?_; rintro e wq hM; obtain ⟨rfl, es9, L9, v9, m9, f9⟩ := (HL2.out.below (by first | exact HBc.out | exact below_drewN HBc.out _)).mut hM HNMD.out; have HL9 := Lib.hid L9; have HV9 := Lib.hid v9; have HP9 := Lib.hid ((HP3.out.below (by first | exact HBc.out | exact below_drewN HBc.out _)).mv m9 fun k hk => H.out.lt hk); have HM9 := Lib.hid ((Mv.of_below (by first | exact HBc.out | exact below_drewN HBc.out _) _).trans m9 (fun _ _ hk => hk)); have HF9 := Lib.hid (fun k hk => (f9 k hk).imp id (Nat.le_trans HBc.out.size)); clear hM L9 v9 m9 f9))
                  | fail)
                all_goals
                  go_wp2
                  try rw [Exit.noGoto_ret]
                  go_ret2
                  refine .inr ⟨by rw [HOQ.out], _, P2, es9, rfl, ⟨?_, by omega⟩, by rw [HOQ.out]; exact HQ1.out, ?_, by rw [HOQ.out]; exact HV9.out.trans HCW.out, ?_, fun k hk => ?_⟩
                  · first | exact HP9.out | exact HP9.out.below (below_drewN (Below.refl _ _) _)
                  · first | exact HL9.out | exact HL9.out.drewN _
                  · first | exact (Mv.of_below HW0.out _).trans HM9.out (fun _ _ hk => hk) | exact ((Mv.of_below HW0.out _).trans HM9.out (fun _ _ hk => hk)).drewN _
                  · rcases HF9.out k hk with hk | hk
                    · exact .inl hk
                    · exact .inr (Nat.le_trans HW0.out.size hk)
              · have HOQ := Lib.hid (show openR L seg S = (P.map (·.2.2), cc, none) from by
                  rw [HALL.out, HOP.out, HAL.out]
                  simp only
                  rw [if_neg HCC.out, if_neg hsh]
                  simp)
                by_cases hc6 : cc = 6
                · subst hc6
                  have hns : ¬ n = seg := fun e => hsh ⟨rfl, e⟩
                  have n1 : ((n : Int) == (seg : Int)) = false := by simp; omega
                  clear hsh hns
                  go_wp2
                  try rw [Exit.noGoto_ret]
                  go_ret2
                  exact .inl ⟨by rw [HOQ.out]; exact HCC.out, by rw [HOQ.out]; rfl, HW0.out⟩
                · have cc6 : ((cc : Int) == 6) = false := by simp; omega
                  clear hsh hc6
                  go_wp2
                  try rw [Exit.noGoto_ret]
                  go_ret2
                  exact .inl ⟨by rw [HOQ.out]; exact HCC.out, by rw [HOQ.out]; rfl, HW0.out⟩
          · obtain rfl : t = bs.length := by omega
            obtain ⟨Q, hq1, hq2⟩ := hq.out
            rw [List.drop_length, allF_nil] at hq2
            simp only [List.append_nil, Nat.add_zero] at hq2
            have hop := HOP.out
            rw [hq2] at hop
            simp only [if_true] at hop
            have HP2 := Lib.hid hP2.out
            have HFN := Lib.hid HBW2.out
            have HNX := Lib.hid (show openR L seg S = (P2.map (·.2.2) ++ (openR L seg (S.drop (k + 1))).1, (openR L seg (S.drop (k + 1))).2) from by rw [HALL.out, hop, hq1]; simp)
            clear hop hq hq1 hq2 hP2 BW2 OW2 hr3
            go_wp2
            go_roundw
            case rel => exact ⟨k + 1, P2, by go_num, by omega, by omega, (show Aside _ from HP2.out), (show Aside _ from HFN.out), (show Aside _ from HNX.out)⟩
            case measure => simp [intOf]; omega
    · obtain rfl : k = S.length := by omega
      have hfin := hall.out
      rw [List.drop_length, openR] at hfin
      simp only [List.append_nil] at hfin
      have HF := Lib.hid hfin; have HP := Lib.hid hP.out; have HB := Lib.hid BW.out
      clear hfin hall hP BW
      go_wp2
      go_ret2
      exact .inr ⟨by rw [HF.out], _, P, es, rfl, ⟨HP.out, by omega⟩, by rw [HF.out], H.out.below HB.out, by rw [HF.out]; rfl, Mv.of_below HB.out _, fun k hk => .inl hk⟩
end
end Go.Proofs.YtnmbjhpecblioaaGreatDoor
