/-
  Make: the plain answers' own.
-/
import Derived.Test.YtgibcfeioljofaaGreatDoorRpu
import Derived.Test.YtgibcfeioljofaaGreatDoorRst
namespace Go.Proofs.YtgibcfeioljofaaGreatDoor
set_option linter.unusedVariables false
set_option linter.unusedSimpArgs false
open Go.RowKit
theorem own_rdC {w : World} {B : Nat} {v : Value} {l : List Lb} (h : w.ownsRow B 26 2 v l.length (lcells l)) : ∃ A c, v = .slice A l.length c ∧ Rd w A (lcells l) ∧ l.length ≤ c := by
  obtain ⟨A, c, e, hr⟩ := own_rdL h
  refine ⟨A, c, e, hr, ?_⟩
  rcases h.2 with ⟨_, h2⟩ | ⟨g, cap, cur, e2, _, _, hnc, _⟩
  · omega
  · rw [e] at e2
    injection e2 with e1 e2 e3
    omega
theorem names_step {l : List Lb} {k : Nat} (h : k < l.length) (hn : ((l.take k).map fun x => bl x.1).Nodup) (ha : ∀ j, (hj : j < k) → bl l[j].1 ≠ bl l[k].1) : ((l.take (k + 1)).map fun x => bl x.1).Nodup := by
  rw [List.take_succ_eq_append_getElem h, List.map_append, List.nodup_append]
  refine ⟨hn, by simp, fun a hm b hb => ?_⟩
  simp only [List.map_cons, List.map_nil, List.mem_singleton] at hb
  subst hb
  obtain ⟨y, hy, rfl⟩ := List.mem_map.1 hm
  obtain ⟨i, hi, rfl⟩ := List.getElem_of_mem hy
  rw [List.length_take] at hi
  rw [List.getElem_take]
  exact ha i (by omega)
theorem names_twice {l : List Lb} {j k : Nat} (h : k < l.length) (hj : j < k) (e : bl l[j].1 = bl l[k].1) : ¬ (l.map fun x => bl x.1).Nodup := by
  intro hn
  rw [List.Nodup, List.pairwise_iff_getElem] at hn
  have := hn j k (by simp; omega) (by simpa using h) hj
  simp at this
  exact this e
theorem full_skip {l : List Lb} {k : Nat} (h : k < l.length) (hz : l[k].2.size = 0) : fullP (l.take (k + 1)) = fullP (l.take k) := by
  rw [List.take_succ_eq_append_getElem h]
  unfold fullP
  rw [List.filter_append]
  simp [hz]
theorem full_put {l acc : List Lb} {k : Nat} (h : k < l.length) (hz : ¬ l[k].2.size = 0) (hp : acc.Perm (fullP (l.take k))) : (putP l[k] acc).Perm (fullP (l.take (k + 1))) := by
  have e : fullP (l.take (k + 1)) = fullP (l.take k) ++ [l[k]] := by
    rw [List.take_succ_eq_append_getElem h]
    unfold fullP
    rw [List.filter_append]
    simp [hz]
  rw [e]
  exact ((putP_perm _ _).trans (hp.cons _)).trans (List.perm_append_singleton _ _).symm
theorem put_rise {l acc : List Lb} {k : Nat} (h : k < l.length) (hp : acc.Perm (fullP (l.take k))) (hr : Rising acc) (ha : ∀ j, (hj : j < k) → bl l[j].1 ≠ bl l[k].1) : Rising (putP l[k] acc) := by
  refine putP_rising hr fun y hy => ?_
  have hy1 := hp.subset hy
  unfold fullP at hy1
  have hy2 := (List.mem_filter.1 hy1).1
  obtain ⟨i, hi, rfl⟩ := List.getElem_of_mem hy2
  rw [List.length_take] at hi
  rw [List.getElem_take]
  exact ha i (by omega)
theorem make_acc {l acc : List Lb} (h0 : faultsP l = 0) (hn : (l.map fun x => bl x.1).Nodup) (hp : acc.Perm (fullP l)) (hr : Rising acc) : makeP l = if 16 < acc.length then (3, []) else (0, acc) := by
  have he : sortP (fullP l) = acc := rising_unique ((sortP_perm _).trans hp.symm) (sortP_rising (nodup_filter _ hn)) hr
  unfold makeP
  rw [if_neg (by omega), if_neg (by simpa using hn), he, hp.length_eq]
theorem make_fault {l : List Lb} {n : Nat} (h : faultsP l = n) (h0 : n ≠ 0) : makeP l = (n, []) := by
  unfold makeP
  rw [if_pos (by omega), h]
section
set_option maxHeartbeats 1600000
set_option maxRecDepth 100000
theorem rmake_any (A : Option Addr) (c : Nat) (l : List Lb) (w : World) (hx : Rd w A (lcells l)) (hf : Few l) :
    Calls Tryz.prog 34 #[.slice A l.length c] w fun e w' => ∃ A' c', e = .returned (.tuple #[.slice A' (makeP l).2.length c', .int .i64 ((makeP l).1 : Nat)]) ∧
      w'.ownsRow w.heap.size 26 2 (.slice A' (makeP l).2.length c') (makeP l).2.length (lcells (makeP l).2) ∧ Below w.heap.size w w' := by
  obtain ⟨R, hR⟩ : ∃ R, R = makeP l := ⟨_, rfl⟩
  rw [← hR]
  have HR := Lib.hid hR; clear hR
  have HF := Lib.hid hf
  have hfl := hf.1
  clear hf
  have hff : faultsP l = faultsFrom l 0 := rfl
  have HFF := Lib.hid hff; clear hff
  go_enter Tryz.func34, Tryz.ntmps34
  go_wp2
  go_loopw [12] (fun s12 wr => ∃ k : Nat, s12 = .int .i64 k ∧ k ≤ l.length ∧ Aside (Below w.heap.size w wr) ∧ Aside (faultsP l = faultsFrom l k)) (fun s12 _ => l.length - (intOf s12).toNat)
  case atStart => exact ⟨0, rfl, by omega, Below.refl _ _, HFF.out⟩
  case round =>
    obtain ⟨k, rfl, hk, BW, E⟩ := hrel
    have k0 : (0 : Int) ≤ (k : Int) := by omega
    by_cases hlt : k < l.length
    · have k1 : (k : Int) < (l.length : Int) := by omega
      obtain ⟨b, off, rfl, c0, c1⟩ := lb_at (hx.below BW.out) hlt
      have hfx := HF.out.2 l[k] (List.getElem_mem hlt)
      have hE := E.out.trans (faultsFrom_step hlt)
      generalize l[k] = x at c0 c1 hfx hE
      obtain ⟨x1, x2⟩ := x
      simp only at hfx c0 c1
      obtain ⟨f1, f2⟩ := hfx
      have hbw : Below w.heap.size w (wr.alloc (.cells #[.string x1, .string x2] 26)) := BW.out.alloc BW.out.size _
      have HBW := Lib.hid hbw; clear hbw
      have hn := fun W => rnamed_any x1 W (by omega)
      have hv := fun W => rvalued_any x2 W (by omega)
      have b1 := cell_blk (heap_alloc_new wr (.cells #[.string x1, .string x2] 26)) 1
      simp only [List.getElem?_toArray, List.getElem?_cons_succ, List.getElem?_cons_zero] at b1
      have HB1 := Lib.hid b1; clear b1
      have F1 := Lib.hid (show namedP (bl x1) = false → R = (50, []) from fun h => by
        have hq : faultP (x1, x2) = 50 := by unfold faultP; rw [if_pos h]
        rw [HR.out]; exact make_fault (by rw [hE, hq]; rfl) (by decide))
      have F2 := Lib.hid (show namedP (bl x1) = true → valuedP (bl x2) = false → R = (51, []) from fun h h' => by
        have hq : faultP (x1, x2) = 51 := by unfold faultP; rw [if_neg (by simp [h]), if_pos h']
        rw [HR.out]; exact make_fault (by rw [hE, hq]; rfl) (by decide))
      have F3 := Lib.hid (show namedP (bl x1) = true → valuedP (bl x2) = true → faultsP l = faultsFrom l (k + 1) from fun h h' => by
        have hq : faultP (x1, x2) = 0 := by unfold faultP; rw [if_neg (by simp [h]), if_neg (by simp [h'])]
        rw [hE, hq]; rfl)
      clear hE E hx
      generalize namedP (bl x1) = nb at hn F1 F2 F3
      generalize valuedP (bl x2) = vb at hv F2 F3
      have HN := Lib.hid hn; clear hn
      have HV := Lib.hid hv; clear hv
      cases nb with
      | false =>
        have hr : R = (50, []) := F1.out rfl
        subst hr
        go_wp2_with fail
        refine (HN.out _).mono ?_
        rintro e w1 ⟨rfl, rfl⟩
        go_wp2
        go_ret2
        exact ⟨none, 0, rfl, World.ownsRow_nil _ _ _ _, HBW.out⟩
      | true =>
        cases vb with
        | false =>
          have hr : R = (51, []) := F2.out rfl rfl
          subst hr
          go_wp2_with fail
          refine (HN.out _).mono ?_
          rintro e w1 ⟨rfl, rfl⟩
          have b1 := HB1.out
          go_wp2_with fail
          refine (HV.out _).mono ?_
          rintro e w1 ⟨rfl, n, rfl⟩
          go_wp2
          go_ret2
          exact ⟨none, 0, rfl, World.ownsRow_nil _ _ _ _, below_drewN HBW.out _⟩
        | true =>
          have HE := Lib.hid (F3.out rfl rfl)
          go_wp2_with fail
          refine (HN.out _).mono ?_
          rintro e w1 ⟨rfl, rfl⟩
          have b1 := HB1.out
          go_wp2_with fail
          refine (HV.out _).mono ?_
          rintro e w1 ⟨rfl, n, rfl⟩
          go_wp2
          go_roundw
          case rel => exact ⟨k + 1, by go_num, by omega, (show Aside _ from below_drewN HBW.out _), (show Aside _ from HE.out)⟩
          case measure => simp [intOf]; omega
    · obtain rfl : k = l.length := by omega
      have h0 : faultsP l = 0 := by rw [E.out]; unfold faultsFrom; rw [List.drop_length]; rfl
      have H0 := Lib.hid h0; clear h0 E
      have hown0 : (wr.alloc (.cells #[] 26)).ownsRow w.heap.size 26 2 (.slice (some ⟨wr.heap.size, 0, none⟩) 0 0) 0 [] :=
        own_whole (l := []) BW.out.size (by decide) (heap_alloc_new wr _)
      have hb0 : RowKit.Below w.heap.size w (wr.alloc (.cells #[] 26)) := BW.out.alloc BW.out.size _
      have HO0 := Lib.hid hown0; clear hown0
      have HB0 := Lib.hid hb0; clear hb0 BW
      have HX := Lib.hid hx; clear hx
      go_wp2
      go_loopw [28, 6] (fun s28 s6 wr => ∃ (k : Nat) (acc : List Lb) (A1 : Option Addr) (c1 : Nat), s28 = .int .i64 k ∧ s6 = .slice A1 acc.length c1 ∧ k ≤ l.length ∧ acc.length ≤ k ∧ Aside (wr.ownsRow w.heap.size 26 2 s6 acc.length (lcells acc)) ∧ Aside (Below w.heap.size w wr) ∧ Aside (acc.Perm (fullP (l.take k))) ∧ Aside (Rising acc) ∧ Aside ((l.take k).map fun x => bl x.1).Nodup) (fun s28 _ _ => l.length - (intOf s28).toNat)
      case atStart => exact ⟨0, [], _, _, rfl, rfl, by omega, by simp, HO0.out, HB0.out, (show List.Perm _ _ from by simp [fullP]), (show Rising _ from by simp [Rising]), (show List.Nodup _ from by simp)⟩
      case round =>
        obtain ⟨k, acc, A1, c1, rfl, rfl, hk, hak, OW, BW, PM, RS, ND⟩ := hrel
        have k0 : (0 : Int) ≤ (k : Int) := by omega
        by_cases hlt : k < l.length
        · have k1 : (k : Int) < (l.length : Int) := by omega
          have hxr := HX.out.below BW.out
          obtain ⟨b, off, rfl, c0, c1'⟩ := lb_at hxr hlt
          have HXR := Lib.hid hxr; clear hxr
          obtain ⟨x, hxk⟩ : ∃ x, x = l[k] := ⟨_, rfl⟩
          rw [← hxk] at c0 c1'
          have HK := Lib.hid hxk; clear hxk
          obtain ⟨x1, x2⟩ := x
          simp only at c0 c1'
          have hbw : Below w.heap.size w (wr.alloc (.cells #[.string x1, .string x2] 26)) := BW.out.alloc BW.out.size _
          have HBW := Lib.hid hbw; clear hbw
          have hxw : Rd (wr.alloc (.cells #[.string x1, .string x2] 26)) (some ⟨b, off, none⟩) (lcells l) := HXR.out.alloc _
          have hoW : (wr.alloc (.cells #[.string x1, .string x2] 26)).ownsRow w.heap.size 26 2 (.slice A1 acc.length c1) acc.length (lcells acc) := OW.out.alloc _
          have b0 := cell_blk (heap_alloc_new wr (.cells #[.string x1, .string x2] 26)) 0
          simp only [List.getElem?_toArray, List.getElem?_cons_zero] at b0
          have b1 := cell_blk (heap_alloc_new wr (.cells #[.string x1, .string x2] 26)) 1
          simp only [List.getElem?_toArray, List.getElem?_cons_succ, List.getElem?_cons_zero] at b1
          have HXW := Lib.hid hxw; clear hxw
          have HOW := Lib.hid hoW; clear hoW
          have HBX := Lib.hid (And.intro b0 b1); clear b0 b1
          go_wp2
          obtain ⟨W, hW⟩ : ∃ W, W = wr.alloc (.cells #[.string x1, .string x2] 26) := ⟨_, rfl⟩
          rw [← hW] at HBW HXW HOW HBX ⊢
          have HW := Lib.hid hW; clear hW
          clear c0 c1' HXR
          go_loopw [34] (fun s34 wx => ∃ j n : Nat, s34 = .int .i64 j ∧ j ≤ k ∧ wx = W.drewN n ∧ Aside (∀ i, (h : i < j) → (h' : i < l.length) → bl l[i].1 ≠ bl x1)) (fun s34 _ => k - (intOf s34).toNat)
          case atStart => exact ⟨0, 0, rfl, by omega, rfl, fun i h _ => absurd h (by omega)⟩
          case round =>
            obtain ⟨j, n, rfl, hj, rfl, D⟩ := hrel
            have j0 : (0 : Int) ≤ (j : Int) := by omega
            have hnn : ∀ q, (W.drewN n).drewN q = W.drewN (n + q) := fun q => World.drewN_drewN _ _ _
            by_cases hjk : j < k
            · have hjl : j < l.length := by omega
              have j1 : (j : Int) < (k : Int) := by omega
              have j2 : (j : Int) < (l.length : Int) := by omega
              obtain ⟨b', off', e, d0, -⟩ := lb_at (HXW.out.drewN n) hjl
              injection e with e; injection e with e1 e2 _; subst e1; subst e2
              have b0 : (W.drewN n).cell? ⟨wr.heap.size, 0, none⟩ = some (.string x1) := HBX.out.1
              have HNN := Lib.hid hnn; clear hnn
              obtain ⟨V, hV⟩ : ∃ V, V = W.drewN n := ⟨_, rfl⟩
              rw [← hV] at d0 b0 HNN ⊢
              have HV := Lib.hid hV; clear hV
              by_cases he : bl l[j].1 = bl x1
              · have hr : R = (52, []) := by
                  rw [HR.out]
                  exact make_twice H0.out (List.Perm.refl _) (names_twice hlt hjk (he.trans (by rw [← HK.out])))
                subst hr
                have heq : l[j].1 = x1 := bl_inj he
                rw [heq] at d0
                clear he heq
                go_wp2_with fail
                go_quiet (fail)
                go_wp2
                go_ret2
                exact ⟨none, 0, rfl, World.ownsRow_nil _ _ _ _, by rw [HV.out]; exact below_drewN (below_drewN HBW.out _) _⟩
              · have hne : (l[j].1.toList == x1.toList) = false := by
                  rw [toList_bl, toList_bl, beq_eq_false_iff_ne]; exact he
                have hne' : ¬ l[j].1.toList = x1.toList := by simpa using hne
                have hD2 : ∀ i, (h : i < j + 1) → (h' : i < l.length) → bl l[i].1 ≠ bl x1 := fun i h h' => by
                  by_cases e : i = j
                  · subst e; exact he
                  · exact D.out i (by omega) h'
                have HD2 := Lib.hid hD2; clear hD2 D he
                generalize l[j].1 = na at d0 hne hne'
                go_wp2_with fail
                go_quiet (fail)
                go_wp2
                go_roundw
                case rel => exact ⟨j + 1, n + nq, by go_num, by omega, by rw [HNN.out], (show Aside _ from HD2.out)⟩
                case measure => simp [intOf]; omega
            · obtain rfl : j = k := by omega
              clear hnn
              have hD : ∀ i, (hi : i < j) → bl l[i].1 ≠ bl l[j].1 := fun i hi => by
                have := D.out i hi (by omega)
                rwa [show x1 = l[j].1 from by rw [← HK.out]] at this
              have hnd := names_step hlt ND.out hD
              have hkn : l[j].2 = x2 := by rw [← HK.out]
              have b0 : (W.drewN n).cell? ⟨wr.heap.size, 0, none⟩ = some (.string x1) := HBX.out.1
              have b1 : (W.drewN n).cell? ⟨wr.heap.size, 1, none⟩ = some (.string x2) := HBX.out.2
              by_cases hz : x2.size = 0
              · have hfu := full_skip hlt (by rw [hkn]; exact hz)
                have hpm : acc.Perm (fullP (l.take (j + 1))) := by rw [hfu]; exact PM.out
                have HPM := Lib.hid hpm; clear hpm hfu hkn hD
                have HND := Lib.hid hnd; clear hnd
                obtain rfl := size_zero hz
                go_wp2
                go_roundw
                case rel => exact ⟨j + 1, acc, A1, c1, by go_num, rfl, by omega, by omega, (show Aside _ from HOW.out), (show Aside _ from below_drewN HBW.out _), (show Aside _ from HPM.out), (show Aside _ from RS.out), (show Aside _ from HND.out)⟩
                case measure => simp [intOf]; omega
              · obtain ⟨e1, e2⟩ := ne_empty hz
                have hpm := full_put hlt (by rw [hkn]; exact hz) PM.out
                have hrs := put_rise hlt PM.out RS.out hD
                rw [← HK.out] at hpm hrs
                have HPM := Lib.hid hpm; clear hpm hkn hD
                have HRS := Lib.hid hrs; clear hrs
                have HND := Lib.hid hnd; clear hnd
                obtain ⟨A2, c2, e, hrd, hcc⟩ := own_rdC HOW.out
                injection e with e1' e2' e3'
                subst e1'; subst e3'
                have hpt := put_any A1 c1 acc x1 x2 (W.drewN n) (hrd.drewN n) hcc (by omega)
                have HPT := Lib.hid hpt; clear hpt hrd hcc
                have hla := putP_len (x1, x2) acc
                clear e2'
                go_wp2_with fail
                refine HPT.out.mono ?_
                rintro e w5 ⟨A5, c5, rfl, ho5, hb5⟩
                have hB5 : RowKit.Below w.heap.size w w5 := (show RowKit.Below w.heap.size w (W.drewN n) from below_drewN HBW.out _).trans (hb5.mono (show w.heap.size ≤ (W.drewN n).heap.size from HBW.out.size))
                have HO5 := Lib.hid (ho5.lower (show w.heap.size ≤ (W.drewN n).heap.size from HBW.out.size)); clear ho5 hb5
                have HB5 := Lib.hid hB5; clear hB5
                obtain ⟨z, hz2⟩ : ∃ z, z = putP (x1, x2) acc := ⟨_, rfl⟩
                rw [← hz2] at HO5 HPM HRS hla ⊢
                have HLA := Lib.hid hla
                clear hz2 hla
                go_wp2
                go_roundw
                case rel => exact ⟨j + 1, z, A5, c5, by go_num, rfl, by omega, by have := HLA.out; omega, (show Aside _ from HO5.out), (show Aside _ from HB5.out), (show Aside _ from HPM.out), (show Aside _ from HRS.out), (show Aside _ from HND.out)⟩
                case measure => simp [intOf]; omega
        · obtain rfl : k = l.length := by omega
          have hpm := PM.out
          have hnd := ND.out
          rw [List.take_length] at hpm hnd
          have hr : R = if 16 < acc.length then (3, []) else (0, acc) := by rw [HR.out]; exact make_acc H0.out hnd hpm RS.out
          clear hpm hnd
          by_cases h16 : 16 < acc.length
          · have hz : (16 : Int) < (acc.length : Int) := by omega
            rw [if_pos h16] at hr
            subst hr
            go_wp2
            go_ret2
            exact ⟨none, 0, rfl, World.ownsRow_nil _ _ _ _, BW.out⟩
          · have hz : ¬ (16 : Int) < (acc.length : Int) := by omega
            rw [if_neg h16] at hr
            subst hr
            go_wp2
            go_ret2
            exact ⟨A1, c1, rfl, OW.out, BW.out⟩
end
end Go.Proofs.YtgibcfeioljofaaGreatDoor
