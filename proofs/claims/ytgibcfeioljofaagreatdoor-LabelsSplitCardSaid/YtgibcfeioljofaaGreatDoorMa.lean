/-
  Make: the walk.
-/
import Derived.Test.YtgibcfeioljofaaGreatDoorMk
import Derived.OwnWalk
namespace Go.Proofs.YtgibcfeioljofaaGreatDoor
set_option linter.unusedVariables false
set_option linter.unusedSimpArgs false
open Go.RowKit
theorem made_block {w : World} {B g n : Nat} {xs : List Value} (h : w.ownsRow B 26 2 (.slice (some ⟨g, 0, none⟩) n n) n xs) : ∃ cur, w.heap[g]? = some (.cells cur 26 (0, 0)) ∧ cur.size = n * 2 := by
  rcases h.2 with ⟨h1, _⟩ | ⟨g', cap', cur, e, hB, hg, hnc, hcm, hcs, htk⟩
  · cases h1
  · injection e with e1 e2 e3
    injection e1 with e1
    injection e1 with e1
    subst e1; subst e3
    exact ⟨cur, hg, hcs⟩
theorem own_whole {w : World} {B g : Nat} {l : List Lb} (hB : B ≤ g) (hl : l.length ≤ maxLen) (hg : w.heap[g]? = some (.cells (lcells l).toArray 26 (0, 0))) : w.ownsRow B 26 2 (.slice (some ⟨g, 0, none⟩) l.length l.length) l.length (lcells l) :=
  own_made (tl := []) hB rfl (Nat.le_refl _) hl (by simp [lcells_len]) (by simpa using hg)
def faultsFrom (l : List Lb) (k : Nat) : Nat := faultsP (l.drop k)
theorem faultsFrom_step {l : List Lb} {k : Nat} (h : k < l.length) : faultsFrom l k = if faultP l[k] ≠ 0 then faultP l[k] else faultsFrom l (k + 1) := by
  unfold faultsFrom
  rw [List.drop_eq_getElem_cons h, faultsP]
section
set_option maxHeartbeats 1600000
set_option maxRecDepth 100000
theorem make_any (A : Option Addr) (c : Nat) (l : List Lb) (w : World) (hT : Tabs w) (hx : Rd w A (lcells l)) (hf : Few l) :
    Calls Tryz.prog 27 #[.slice A l.length c] w fun e w' => ∃ A' c', e = .returned (.tuple #[.slice A' (makeP l).2.length c', .int .i64 ((makeP l).1 : Nat)]) ∧
      w'.ownsRow w.heap.size 26 2 (.slice A' (makeP l).2.length c') (makeP l).2.length (lcells (makeP l).2) ∧ Below w.heap.size w w' := by
  obtain ⟨i0, hi, hz0, hz1, hz2⟩ := info_parts infoLb
  obtain ⟨R, hR⟩ : ∃ R, R = makeP l := ⟨_, rfl⟩
  rw [← hR]
  have HR := Lib.hid hR; clear hR
  have HT := Lib.hid hT; clear hT
  have HF := Lib.hid hf
  have hfl := hf.1
  clear hf
  have hff : faultsP l = faultsFrom l 0 := rfl
  have HFF := Lib.hid hff; clear hff
  have HI := Lib.hid hi; have HZ0 := Lib.hid hz0; have HZ1 := Lib.hid hz1; have HZ2 := Lib.hid hz2
  clear hi hz0 hz1 hz2
  go_enter Tryz.func27, Tryz.ntmps27
  go_wp2
  go_loopw [11] (fun s11 wr => ∃ k : Nat, s11 = .int .i64 k ∧ k ≤ l.length ∧ Aside (Below w.heap.size w wr) ∧ Aside (faultsP l = faultsFrom l k)) (fun s11 _ => l.length - (intOf s11).toNat)
  case atStart => exact ⟨0, rfl, by omega, Below.refl _ _, HFF.out⟩
  case round =>
    obtain ⟨k, rfl, hk, BW, E⟩ := hrel
    have k0 : (0 : Int) ≤ (k : Int) := by omega
    by_cases hlt : k < l.length
    · have k1 : (k : Int) < (l.length : Int) := by omega
      obtain ⟨b, off, rfl, c0, c1⟩ := lb_at (hx.below BW.out) hlt
      have hfx := HF.out.2 l[k] (List.getElem_mem hlt)
      have hE := E.out.trans (faultsFrom_step hlt)
      generalize l[k] = x at c0 c1 hfx hE
      have HE := Lib.hid hE; clear hE E hx
      obtain ⟨x1, x2⟩ := x
      simp only at hfx c0 c1
      obtain ⟨f1, f2⟩ := hfx
      have hbw : Below w.heap.size w (wr.alloc (.cells #[.string x1, .string x2] 26)) := BW.out.alloc BW.out.size _
      have hc := fault_any (x1, x2) (wr.alloc (.cells #[.string x1, .string x2] 26)) (HT.out.below hbw) (by show x1.size ≤ _; omega) (by show x2.size ≤ _; omega)
      have HBW := Lib.hid hbw; clear hbw
      rcases Nat.eq_zero_or_pos (faultP (x1, x2)) with h0 | h0
      · rw [h0] at hc
        have hE2 := HE.out
        rw [h0] at hE2
        have HE2 := Lib.hid hE2; clear hE2 h0
        have HC := Lib.hid hc; clear hc
        go_wp2_with fail
        refine HC.out.mono ?_
        rintro e w1 ⟨rfl, hb⟩
        have HB := Lib.hid (HBW.out.trans (hb.mono HBW.out.size)); clear hb
        go_wp2
        go_roundw
        case rel => exact ⟨k + 1, by go_num, by omega, (show Aside _ from HB.out), (show faultsP l = faultsFrom l (k + 1) from by have := HE2.out; simpa using this)⟩
        case measure => simp [intOf]; omega
      · obtain ⟨n, hnn⟩ : ∃ n, n = faultP (x1, x2) := ⟨_, rfl⟩
        have hr : R = (n, []) := by
          rw [HR.out]
          have h1 := HE.out
          rw [if_pos (by omega)] at h1
          unfold makeP
          rw [if_pos (by omega), h1, hnn]
        subst hr
        rw [← hnn] at hc h0
        clear hnn
        have hn : ((n : Int) != 0) = true := by rw [bne_iff_ne]; omega
        have HC := Lib.hid hc; clear hc
        go_wp2_with fail
        refine HC.out.mono ?_
        rintro e w1 ⟨rfl, hb⟩
        have HB := Lib.hid (HBW.out.trans (hb.mono HBW.out.size)); clear hb
        go_wp2
        go_ret2
        exact ⟨none, 0, rfl, World.ownsRow_nil _ _ _ _, HB.out⟩
    · obtain rfl : k = l.length := by omega
      have h0 : faultsP l = 0 := by rw [E.out]; unfold faultsFrom; rw [List.drop_length]; rfl
      have H0 := Lib.hid h0; clear h0 E
      have hxr := hx.below BW.out
      have HX := Lib.hid hxr; clear hxr hx
      have hi := HI.out; have hz0 := HZ0.out; have hz1 := HZ1.out; have hz2 := HZ2.out
      go_wp2_with (first | (at_make; go_must (refine wpList_make_full _ rfl _ _ 23 rfl w.heap.size 26 i0 (.agg #[.string ⟨#[]⟩, .string ⟨#[]⟩]) 2 Tryz.underlying23 hi hz0 hz1 _ _ _ _ l.length rfl rfl rfl rfl (by rw [hz2]; omega) (by unfold maxLen; omega) BW.out.size ?_; intro w1 hown hgr; obtain ⟨cur, hcg, hcs⟩ := made_block hown; have hb1 : RowKit.Below wr.heap.size wr w1 := (RowKit.Below.refl _ wr).grown hgr (Nat.le_refl _) (fun k e => by cases e); have hcp := run_copy_lb w1 wr.heap.size l.length c A l cur hcg hcs (HX.out.below hb1); have HB1 := Lib.hid hb1; clear hb1; have HCG := Lib.hid hcg; clear hcg hcs hgr hown)) | fail)
      have hg2 : (w1.setRow wr.heap.size (lcells l).toArray).heap[wr.heap.size]? = some (.cells (lcells l).toArray 26 (0, 0)) := setRow_heap _ _ _ _ _ _ HCG.out
      have hb2 : RowKit.Below wr.heap.size wr (w1.setRow wr.heap.size (lcells l).toArray) := HB1.out.trans ⟨rfl, rfl, rfl, by simp, fun k hk => setRow_other _ _ _ _ (by omega)⟩
      have hs := sortf_some wr.heap.size l.length l _ hg2 (by omega)
      have HB2 := Lib.hid (BW.out.trans (hb2.mono BW.out.size)); clear hb2
      have HS := Lib.hid hs; clear hs hg2 hcp
      clear hi hz0 hz1 hz2
      go_wp2_with fail
      refine HS.out.mono ?_
      rintro e w3 ⟨rfl, m, hperm, hsort, hg3, hmv⟩
      have hml : m.length = l.length := hperm.length_eq
      have hB3 : RowKit.Below w.heap.size w w3 := HB2.out.trans (hmv.belowB HB2.out.size (fun k hk e => by have := BW.out.size; omega))
      have HB3 := Lib.hid hB3; clear hB3 hmv
      have HP := Lib.hid hperm; clear hperm
      have HSO := Lib.hid hsort; clear hsort
      have HG3 := Lib.hid hg3; clear hg3
      obtain ⟨g, hgd⟩ : ∃ g, g = wr.heap.size := ⟨_, rfl⟩
      have hwg : w.heap.size ≤ g := by rw [hgd]; exact BW.out.size
      rw [← hgd] at HG3
      simp only [← hgd]
      have HGD := Lib.hid hgd; clear hgd
      clear HS HCG HB1 HB2 HX
      go_wp2
      obtain ⟨w9, hw9⟩ : ∃ w9, w9 = wr := ⟨_, rfl⟩
      go_loopw [31] (fun s31 wx => ∃ k n : Nat, s31 = .int .i64 k ∧ k ≤ l.length ∧ wx = w3.drewN n ∧ Aside (∀ j, (h : j + 1 < m.length) → j + 1 < k → bl m[j].1 ≠ bl m[j + 1].1)) (fun s31 _ => l.length - (intOf s31).toNat)
      case atStart => exact ⟨0, 0, rfl, by omega, rfl, fun j h hj => absurd hj (by omega)⟩
      case round =>
        obtain ⟨k, n, rfl, hk, rfl, D⟩ := hrel
        have k0 : (0 : Int) ≤ (k : Int) := by omega
        by_cases hlt : k < l.length
        · have k1 : (k : Int) < (l.length : Int) := by omega
          have hgW : (w3.drewN n).heap[g]? = some (.cells (lcells m).toArray 26 (0, 0)) := HG3.out
          have hnn : ∀ q, (w3.drewN n).drewN q = w3.drewN (n + q) := fun q => World.drewN_drewN _ _ _
          have HNN := Lib.hid hnn; clear hnn
          generalize hW : w3.drewN n = W at hgW HNN
          have HW := Lib.hid hW; clear hW
          by_cases hz : k = 0
          · subst hz
            have HGW := Lib.hid hgW; clear hgW
            go_wp2_with fail
            go_quiet (fail)
            go_wp2
            go_roundw
            case rel => exact ⟨1, n + nq, by go_num, by omega, by rw [HNN.out], (show Aside _ from fun j h hj => absurd hj (by omega))⟩
            case measure => simp [intOf]; omega
          · obtain ⟨j, rfl⟩ : ∃ j, k = j + 1 := ⟨k - 1, by omega⟩
            have hj1 : j + 1 < m.length := by omega
            have hrd : Rd W (some ⟨g, 0, none⟩) (lcells m) := own_rd2 (tl := []) (by simpa using hgW)
            obtain ⟨b, off, e, c1, -⟩ := lb_at hrd hj1
            injection e with e; injection e with e1 e2 _; subst e1; subst e2
            obtain ⟨b, off, e, c0, -⟩ := lb_at hrd (show j < m.length by omega)
            injection e with e; injection e with e1 e2 _; subst e1; subst e2
            rw [Nat.zero_add] at c0 c1
            have g0 : (0 : Int) < (j : Int) + 1 := by omega
            have g1 : (j : Int) + 1 < (l.length : Int) := by omega
            have g2 : (0 : Int) ≤ (j : Int) + 1 := by omega
            have g3 : (0 : Int) ≤ (j : Int) := by omega
            have g4 : (j : Int) < (l.length : Int) := by omega
            have g5 : j < l.length := by omega
            have g6 : j + 1 < l.length := by omega
            clear hrd
            by_cases he : bl m[j].1 = bl m[j + 1].1
            · have hn := twice_not hj1 he
              have hr : R = (52, []) := by rw [HR.out]; exact make_twice H0.out HP.out hn
              subst hr
              have heq : m[j + 1].1 = m[j].1 := (bl_inj he).symm
              generalize m[j + 1].1 = na at c1 heq
              subst heq
              generalize m[j].1 = nb at c0 c1
              clear he hn hgW
              go_wp2_with fail
              go_quiet (fail)
              go_wp2
              go_ret2
              exact ⟨none, 0, rfl, World.ownsRow_nil _ _ _ _, by rw [HNN.out]; exact below_drewN HB3.out _⟩
            · have hne : (m[j + 1].1.toList == m[j].1.toList) = false := by
                rw [toList_bl, toList_bl, beq_eq_false_iff_ne]; exact fun e => he e.symm
              have hne' : ¬ m[j + 1].1.toList = m[j].1.toList := by simpa using hne
              have HE := Lib.hid he; clear he hgW
              have hD2 : ∀ i, (h : i + 1 < m.length) → i + 1 < j + 2 → bl m[i].1 ≠ bl m[i + 1].1 := fun i h hi => by
                by_cases e : i = j
                · subst e; exact HE.out
                · exact D.out i h (by omega)
              have HD2 := Lib.hid hD2; clear hD2 HE
              generalize m[j + 1].1 = na at c1 hne hne'
              generalize m[j].1 = nb at c0 hne hne'
              go_wp2_with fail
              go_quiet (fail)
              go_wp2
              go_roundw
              case rel => exact ⟨j + 2, n + nq, by go_num, by omega, by rw [HNN.out], (show Aside _ from HD2.out)⟩
              case measure => simp [intOf]; omega
        · obtain rfl : k = l.length := by omega
          have hris : Rising m := sorted_rising HSO.out (fun j h => D.out j h (by omega))
          have hr : R = if 16 < (fullP m).length then (3, []) else (0, fullP m) := by rw [HR.out]; exact make_of H0.out HP.out hris
          have hfe : dropP (fun x => x.2.size == 0) m = fullP m := by
            unfold dropP fullP
            congr 1
          have hgW : (w3.drewN n).heap[g]? = some (.cells (lcells m).toArray 26 (0, 0)) := HG3.out
          have hbW : RowKit.Below w.heap.size w (w3.drewN n) := below_drewN HB3.out n
          have eg : ∀ args w, (callFunc 54 args).run Tryz.prog w = .ok (.enter 54 args) w := enters_of Tryz.func54 (by kernel_rfl) rfl
          have hd := delf_some w.heap.size g m.length m (w3.drewN n) 54 #[] _ _ eg empty_tells (fun _ _ => trivial) (own_whole hwg (by unfold maxLen; omega) hgW) (by omega)
          rw [hfe, hml] at hd
          have HR2 := Lib.hid hr; clear hr
          have HD := Lib.hid hd; clear hd hfe hgW eg hris
          have HBW := Lib.hid hbW; clear hbW
          generalize fullP m = z at HD HR2
          go_wp2_with fail
          refine HD.out.mono ?_
          rintro e w5 ⟨rfl, hown5, hmv⟩
          have hB5 : RowKit.Below w.heap.size w w5 := HBW.out.trans (hmv.belowB HBW.out.size (fun k hk e => by omega))
          have HB5 := Lib.hid hB5; clear hB5 hmv
          have HO5 := Lib.hid hown5; clear hown5
          by_cases h16 : 16 < z.length
          · have hz : (16 : Int) < (z.length : Int) := by omega
            have hr := HR2.out
            rw [if_pos h16] at hr
            subst hr
            clear HR2
            go_wp2
            go_ret2
            exact ⟨none, 0, rfl, World.ownsRow_nil _ _ _ _, HB5.out⟩
          · have hz : ¬ (16 : Int) < (z.length : Int) := by omega
            have hr := HR2.out
            rw [if_neg h16] at hr
            subst hr
            clear HR2
            go_wp2
            go_ret2
            exact ⟨some ⟨g, 0, none⟩, l.length, rfl, HO5.out, HB5.out⟩
end
end Go.Proofs.YtgibcfeioljofaaGreatDoor
