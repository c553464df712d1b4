/-
  The plain answers' disk: Cut.
-/
import Derived.Test.YtnmbjhpecblioaaZfh
namespace Go.Proofs.Ytnmbjhpecblioaa
set_option linter.unusedVariables false
set_option linter.unusedSimpArgs false
open Go.RowKit
theorem set_comm (w : World) (b i j : Nat) (u v : Value) (h : i ≠ j) (k : Nat) : ((w.setCell ⟨b, i, none⟩ u).setCell ⟨b, j, none⟩ v).heap[k]? = ((w.setCell ⟨b, j, none⟩ v).setCell ⟨b, i, none⟩ u).heap[k]? := by
  by_cases hk : k = b
  · subst hk
    cases hb : w.heap[k]? with
    | none => simp [World.setCell, Array.getElem?_modify, hb]
    | some o => cases o <;> simp [World.setCell, Array.getElem?_modify, hb, Array.setIfInBounds_comm _ _ h]
  · rw [set_other _ _ _ _ hk, set_other _ _ _ _ hk, set_other _ _ _ _ hk, set_other _ _ _ _ hk]
theorem upd_pair {L : List Fl} (h : L.Pairwise fun a b => bl a.1 < bl b.1) (x : Fl) : (updL L x).Pairwise fun a b => bl a.1 < bl b.1 := by
  unfold updL
  rw [List.pairwise_map]
  refine h.imp fun {a b} hlt => ?_
  split <;> split <;> simp_all
section
set_option maxHeartbeats 1600000
set_option maxRecDepth 100000
variable {w : World} {p room : Nat} {fv : Value} {ys : List RF}
theorem rcut_any (h : RefE w p room fv ys) (s : ByteArray) (n : Int) (hp : (ys.map rval).Pairwise fun a b => bl a.1 < bl b.1) : Calls Try.prog 29 #[.pointer (some ⟨p, 0, none⟩), .string s, .int .i64 n] w (RefOut2 w p room fv ys (cutD (ys.map rval) s n)) := by
  have HA := Lib.hid (rat_any h s); have H := Lib.hid h; have HP := Lib.hid hp
  clear h hp
  go_enter Try.func29, Try.ntmps29
  go_wp2_with fail
  with_reducible refine HA.out.mono ?_
  rintro e w1 ⟨⟨rfl, hn⟩ | ⟨k, y, hk, hn, rfl⟩, hb1⟩
  · have HB := Lib.hid hb1
    have HL := Lib.hid (lookR_none hn)
    clear hn hb1
    go_wp2
    go_ret
    unfold cutD
    rw [HL.out]
    exact ⟨rfl, ys, fv, rfl, H.out.below HB.out, ⟨HB.out.os, HB.out.tape, HB.out.output, HB.out.size, fun k hk _ => HB.out.block k hk⟩, fun k hk => .inl hk⟩
  · subst hn
    have HL := Lib.hid (lookR_some HP.out hk rfl)
    have HB := Lib.hid hb1
    have h1 := H.out.below hb1
    have H1 := Lib.hid h1
    have HK := Lib.hid hk
    have c0 := cell_blk h1.box 0; have c1 := cell_blk h1.box 1
    simp only [List.getElem?_toArray, List.getElem?_cons_succ, List.getElem?_cons_zero] at c0 c1
    have hyb := h1.at_ y (List.mem_of_getElem? hk)
    have HYE := Lib.hid (h1.each y (List.mem_of_getElem? hk)).1
    obtain ⟨A, c, rfl, hr, hc1, hc2⟩ := own_rd_f h1.row
    obtain ⟨b, off, rfl, hcl⟩ := hr.flat fcells_len (by decide) hk
    have hoff : off = 0 := by
      rcases h1.row.2 with ⟨e1, _⟩ | ⟨g', cap', cur, e1, hB, hh, _⟩
      · cases e1
      · injection e1 with e1; injection e1 with e1; injection e1
    subst hoff
    have d1 := hcl 1 _ rfl; have d2 := hcl 2 _ rfl
    rw [Nat.zero_add] at d1 d2
    obtain ⟨Ay, cy, hyv, hyr, hycap, -⟩ := hyb.rd
    rw [hyv] at d1
    obtain ⟨m, hm⟩ : ∃ m, m = y.bs.length := ⟨_, rfl⟩
    rw [← hm] at d1 hyv hycap
    have HM := Lib.hid hm; have HYV := Lib.hid hyv; have HYR := Lib.hid hyr
    have hm2 : m ≤ 16777216 := by
      have b1 := del_sum HL.out
      have b3 : (rval y).2.1.length = m := HM.out.symm
      have := H1.out.fits.1; have := H1.out.fits.2.1
      rw [b3] at b1; omega
    have hg : ∃ cs, w1.heap[b]? = some (.cells cs 66 (0, 0)) := by
      rcases h1.row.2 with ⟨e1, _⟩ | ⟨g', cap', cur, e1, hB, hh, _⟩
      · cases e1
      · injection e1 with e1; injection e1 with e1; injection e1 with e1
        exact ⟨cur, by rw [e1]; exact hh⟩
    obtain ⟨cs, hg⟩ := hg
    have f1 := free_blk hg (k * 3 + 1)
    have hkl : k < ys.length := (List.getElem?_eq_some_iff.1 hk).1
    have k0 : ¬ (k : Int) < 0 := by omega
    have k00 : (0 : Int) ≤ (k : Int) := by omega
    have k1 : (k : Int) < (ys.length : Int) := by omega
    have k2 : (k : Int) ≤ (c : Int) := by omega
    have HG := Lib.hid hg
    clear hb1 hk HA h1 hr hcl hyb hyv hyr hg hm
    have hsame : cutD (ys.map rval) y.nm n = (1, ys.map rval) → RefOut2 w p room (.slice (some ⟨b, 0, none⟩) ys.length c) ys (cutD (ys.map rval) y.nm n) (.returned (.int .i64 1)) w1 := fun he => by
      rw [he]
      exact ⟨rfl, ys, _, rfl, H1.out, ⟨HB.out.os, HB.out.tape, HB.out.output, HB.out.size, fun k hk _ => HB.out.block k hk⟩, fun k hk => .inl hk⟩
    have HSAME := Lib.hid hsame
    clear hsame
    by_cases n0 : n < 0
    · have HN0 := Lib.hid n0
      have n0' : decide (n < 0) = true := decide_eq_true n0
      go_wp2
      go_ret
      exact HSAME.out (by unfold cutD; rw [HL.out]; simp only; rw [if_pos (.inl HN0.out)])
    · have n0' : decide (n < 0) = false := decide_eq_false n0
      by_cases n1 : (m : Int) < n
      · have HN1 := Lib.hid n1
        go_wp2
        go_ret
        exact HSAME.out (by unfold cutD; rw [HL.out]; simp only; rw [if_pos (.inr (by show (y.bs.length : Int) < n; rw [← HM.out]; exact HN1.out))])
      · obtain ⟨nn, rfl⟩ := Int.eq_ofNat_of_zero_le (by omega : 0 ≤ n)
        have hnm : nn ≤ m := by omega
        have n2 : (nn : Int) ≤ (m : Int) := by omega
        have n3 : (nn : Int) ≤ (cy : Int) := by omega
        have hlt : (y.bs.take nn).length = nn := by rw [List.length_take, ← HM.out]; omega
        have hj : ∀ (W : World) (R c' : Nat), Below w1.heap.size w1 W → W.heap[R]? = some (.cells #[.slice Ay nn c'] 33 (0, 0)) → Calls Try.prog 24 #[.slice (some ⟨R, 0, none⟩) 1 1] W fun e w' => ∃ A6 c6, e = .returned (.slice A6 nn c6) ∧ w'.ownsRow W.heap.size 5 1 (.slice A6 nn c6) nn ((y.bs.take nn).map Bv) ∧ Below w1.heap.size w1 w' := fun W R c' hb hr => by
          have hP : ∀ q ∈ [(Ay, c', y.bs.take nn)], Rd W q.1 (q.2.2.map Bv) := fun q hq => by
            rw [List.mem_singleton] at hq
            subst hq
            have := (HYR.out.below hb).take nn
            rwa [← List.map_take] at this
          have hS : Rd W (some ⟨R, 0, none⟩) ([(Ay, c', y.bs.take nn)].map partV) := fun j v hv => by
            refine ⟨R, 0, rfl, ?_⟩
            rw [cell_blk hr, Nat.zero_add]
            simpa [partV, hlt, List.length_take, ← HM.out, Nat.min_eq_left hnm] using hv
          have hjl : joined [(Ay, c', y.bs.take nn)] = y.bs.take nn := by simp [joined]
          refine (join_any W (some ⟨R, 0, none⟩) 1 [(Ay, c', y.bs.take nn)] hS hP (by rw [hjl, hlt]; omega) (by simp)).mono ?_
          rintro e w' ⟨v, rfl, ho, hb'⟩
          rw [hjl, hlt] at ho
          obtain ⟨A6, c6, e6, -, -, -, -⟩ := own_rd ho
          subst e6
          exact ⟨A6, c6, rfl, ho, hb.trans (hb'.mono hb.size)⟩
        have HJ := Lib.hid hj
        have HLT := Lib.hid hlt; have HNM := Lib.hid hnm
        have hbl : b < w1.heap.size := blk_lt HG.out
        have HK2 := Lib.hid (fun (w' : World) (hb : Below w1.heap.size w1 w') => show w'.cell? ⟨p, 1, none⟩ = some (.slice (some ⟨b, 0, none⟩) ys.length c) ∧ w'.cell? ⟨b, k * 3 + 1, none⟩ = some (.slice Ay m cy) ∧ w'.cell? ⟨b, k * 3 + 2, none⟩ = some (.int .i64 (y.n : Nat)) ∧ w'.frozen? ⟨b, k * 3 + 1, none⟩ = false ∧ w'.frozen? ⟨b, k * 3 + 2, none⟩ = false from by
          have h9 := H1.out.below hb
          have a1 := cell_blk h9.box 1
          simp only [List.getElem?_toArray, List.getElem?_cons_succ, List.getElem?_cons_zero] at a1
          obtain ⟨A', c', e', hr', -, -⟩ := own_rd_f h9.row
          injection e' with e1 e2 e3
          subst e1; subst e3
          obtain ⟨b', off', e4, hcl⟩ := hr'.flat fcells_len (by decide) HK.out
          injection e4 with e4; injection e4 with e4 e5
          subst e4; subst e5
          have z1 := hcl 1 _ rfl; have z2 := hcl 2 _ rfl
          rw [Nat.zero_add] at z1 z2
          rw [HYV.out] at z1
          have hg' := (hb.block b hbl).trans HG.out
          exact ⟨a1, z1, z2, free_blk hg' _, free_blk hg' _⟩)
        clear hj hlt
        go_wp2
        have HBc := Lib.hid (Below.refl w1.heap.size w1)
        have hpb : p ≠ b := fun e => by
          have := H1.out.box
          rw [e, HG.out] at this
          injection this with this; injection this with _ this
          exact absurd this (by decide)
        have HKS := Lib.hid (fun (w' : World) (v : Value) (hb : Below w1.heap.size w1 w') => show (w'.setCell ⟨b, k * 3 + 1, none⟩ v).cell? ⟨p, 1, none⟩ = some (.slice (some ⟨b, 0, none⟩) ys.length c) from by
          have := cell_blk ((set_other w' b (k * 3 + 1) v hpb).trans (H1.out.below hb).box) 1
          simpa using this)
        have ca : ∀ o : Obj, (w1.alloc o).cell? ⟨p, 1, none⟩ = some (.slice (some ⟨b, 0, none⟩) ys.length c) := fun o => (HK2.out _ ((Below.refl _ w1).alloc (Nat.le_refl _) o)).1
        go_region_law (first
          | (go_simp; go_at_call 24; go_loud (refine (HJ.out (w1.alloc (.cells #[.slice Ay nn cy] 33)).drew w1.heap.size cy (below_drewN ((Below.refl _ w1).alloc (Nat.le_refl _) _) 1) (heap_alloc_new w1 _)).mono ?_; rintro e w6 ⟨A6, c6, rfl, ho6, hb6⟩; obtain ⟨z0, z1, z2, x1, x2⟩ := HK2.out _ hb6; have HO6 := Lib.hid ho6; have HBc := Lib.hid hb6; clear ho6 hb6))
          | fail)
        all_goals
          have h6 := H1.out.below HBc.out
          have hmem := List.mem_of_getElem? HK.out
          have hle : nn ≤ y.bs.length := by rw [← HM.out]; exact HNM.out
          have p1 := h6.put1 (k := k) (j := 2) (y := y) (y' := { y with n := nn }) (u := .int .i64 (nn : Nat)) (by decide) HK.out rfl rfl (h6.at_ y hmem) (Nat.le_refl _) hle HP.out
          have hkey : (ys.set k { y with n := nn })[k]? = some { y with n := nn } := by rw [List.getElem?_set_self hkl]
          have hsrt : ((ys.set k { y with n := nn }).map rval).Pairwise fun a b => bl a.1 < bl b.1 := by
            rw [List.map_set, ← upd_set (x := rval { y with n := nn }) HP.out (f := rval y) (by rw [List.getElem?_map, HK.out]; rfl) rfl]
            exact upd_pair HP.out _
          have hv6 : BytesAt w6 (.slice A6 nn c6) (y.bs.take nn) := .inl (by rw [HLT.out]; exact HO6.out.lower (Nat.zero_le _))
          have hg6 := (HBc.out.block b hbl).trans HG.out
          have p2 := p1.put1 (k := k) (j := 1) (y := { y with n := nn }) (y' := ⟨y.nm, .slice A6 nn c6, y.bs.take nn, nn⟩) (u := .slice A6 nn c6) (by decide) hkey rfl rfl
            (hv6.moved fun g hg => set_other _ _ _ _ fun e => hv6.ne hg6 (by decide) (by rw [← e]; exact hg)) (by show (y.bs.take nn).length ≤ y.bs.length; rw [HLT.out]; exact hle) (by show nn ≤ (y.bs.take nn).length; rw [HLT.out]; exact Nat.le_refl _) hsrt
          rw [List.set_set] at p2
          have p3 : RefE ((w6.setCell ⟨b, k * 3 + 1, none⟩ (.slice A6 nn c6)).setCell ⟨b, k * 3 + 2, none⟩ (.int .i64 (nn : Nat))) p room (.slice (some ⟨b, 0, none⟩) ys.length c) (ys.set k ⟨y.nm, .slice A6 nn c6, y.bs.take nn, nn⟩) := p2.moved fun k' _ => set_comm w6 b _ _ _ _ (by omega) k'
          have hfin : RefOut2 w p room (.slice (some ⟨b, 0, none⟩) ys.length c) ys (cutD (ys.map rval) y.nm (nn : Int)) (.returned (.int .i64 0)) ((w6.setCell ⟨b, k * 3 + 1, none⟩ (.slice A6 nn c6)).setCell ⟨b, k * 3 + 2, none⟩ (.int .i64 (nn : Nat))) := by
            have hc : cutD (ys.map rval) y.nm (nn : Int) = (0, updL (ys.map rval) (y.nm, y.bs.take nn, nn)) := by
              unfold cutD
              rw [HL.out]
              simp only [Int.toNat_natCast]
              rw [if_neg (by
                have h5 : (rval y).2.1.length = y.bs.length := rfl
                rw [h5]; omega)]
              rfl
            rw [hc]
            refine ⟨rfl, _, _, ?_, p3, ?_, fun k' hk' => ?_⟩
            · rw [List.map_set]
              exact (upd_set HP.out (f := rval y) (x := (y.nm, y.bs.take nn, nn)) (by rw [List.getElem?_map, HK.out]; rfl) rfl).symm
            · exact (((show Mv (footR p (.slice (some ⟨b, 0, none⟩) ys.length c) ys) w w6 from ⟨(HB.out.trans (HBc.out.mono HB.out.size)).os, (HB.out.trans (HBc.out.mono HB.out.size)).tape, (HB.out.trans (HBc.out.mono HB.out.size)).output, (HB.out.trans (HBc.out.mono HB.out.size)).size, fun k hk _ => (HB.out.trans (HBc.out.mono HB.out.size)).block k hk⟩).setCell (p := ⟨b, k * 3 + 1, none⟩) (fun _ => .inr (.inl rfl)) _).setCell (p := ⟨b, k * 3 + 2, none⟩) (fun _ => .inr (.inl rfl)) _)
            · rcases hk' with hk' | hk' | ⟨z, hz, hk'⟩
              · exact .inl (.inl hk')
              · exact .inl (.inr (.inl hk'))
              · rcases List.mem_or_eq_of_mem_set hz with hm2 | rfl
                · exact .inl (.inr (.inr ⟨z, hm2, hk'⟩))
                · have h7 := (HO6.out.lt k' hk').1
                  have h8 : w1.heap.size ≤ (w1.alloc (.cells #[.slice Ay nn cy] 33)).drew.heap.size := by
                    show w1.heap.size ≤ (w1.alloc (.cells #[.slice Ay nn cy] 33)).heap.size
                    rw [World.size_alloc]; omega
                  have := HB.out.size
                  exact .inr (by omega)
          have HF := Lib.hid hfin
          have y1 := HKS.out _ (.slice A6 nn c6) HBc.out
          clear h6 p1 hkey hsrt hv6 hg6 p2 p3 hfin hmem hle
          go_wp2
          go_ret
          exact HF.out
end
end Go.Proofs.Ytnmbjhpecblioaa
