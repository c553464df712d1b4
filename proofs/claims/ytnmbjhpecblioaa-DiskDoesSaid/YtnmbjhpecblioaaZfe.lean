/-
  The plain answers' disk: Sync.
-/
import Derived.Test.YtnmbjhpecblioaaZfd
namespace Go.Proofs.Ytnmbjhpecblioaa
set_option linter.unusedVariables false
set_option linter.unusedSimpArgs false
open Go.RowKit
theorem own_setF {w : World} {B : Nat} {e : TypeId} {size n cap g : Nat} {xs : List Value} (h : w.ownsRow B e size (.slice (some ⟨g, 0, none⟩) n cap) n xs) {j : Nat} (hj : j < n * size) (x : Value) :
    (w.setCell ⟨g, j, none⟩ x).ownsRow B e size (.slice (some ⟨g, 0, none⟩) n cap) n (xs.set j x) := by
  obtain ⟨hl, h2⟩ := h
  refine ⟨by rw [List.length_set]; exact hl, ?_⟩
  rcases h2 with ⟨e1, _⟩ | ⟨g', cap', cur, e1, hB, hh, hn, hc, hs, ht⟩
  · cases e1
  · injection e1 with e1 e2 e3
    injection e1 with e1; injection e1 with e1
    subst e1
    refine .inr ⟨g, cap', _, by rw [e3], hB, set_blk hh j x, hn, hc, by simpa using hs, ?_⟩
    rw [Array.toList_setIfInBounds, List.take_set, ht]
theorem flat_set {y' : RF} {u : Value} {j : Nat} (hj : j < 3) : ∀ (ys : List RF) (k : Nat) (y : RF), ys[k]? = some y → fcells y' = (fcells y).set j u → (ys.set k y').flatMap fcells = (ys.flatMap fcells).set (k * 3 + j) u
  | [], k, y, h, _ => by simp at h
  | z :: r, 0, y, h, hf => by
    have : z = y := by simpa using h
    subst this
    rw [List.set_cons_zero, List.flatMap_cons, List.flatMap_cons, hf, List.set_append_left _ _ (by rw [fcells_len]; omega)]
    congr 2; omega
  | z :: r, k + 1, y, h, hf => by
    have ih := flat_set hj r k y (by simpa using h) hf
    rw [List.set_cons_succ, List.flatMap_cons, List.flatMap_cons, ih, List.set_append_right _ _ (by rw [fcells_len]; omega), fcells_len]
    congr 2; omega
theorem upd_set {f x : Fl} : ∀ {L : List Fl} {k : Nat}, (L.Pairwise fun a b => bl a.1 < bl b.1) → L[k]? = some f → x.1 = f.1 → updL L x = L.set k x
  | [], k, _, h, _ => by simp at h
  | z :: r, 0, hp, h, hx => by
    have : z = f := by simpa using h
    subst this
    rw [List.pairwise_cons] at hp
    unfold updL
    rw [List.map_cons, if_pos hx.symm, List.set_cons_zero]
    congr 1
    refine (List.map_congr_left fun g hg => ?_).trans (List.map_id r)
    rw [if_neg fun e => by have := hp.1 g hg; rw [e, hx] at this; exact ltB_irrefl _ this]; rfl
  | z :: r, k + 1, hp, h, hx => by
    rw [List.pairwise_cons] at hp
    have hk : r[k]? = some f := by simpa using h
    have ih := upd_set hp.2 hk hx
    unfold updL at ih ⊢
    rw [List.map_cons, List.set_cons_succ, ih, if_neg fun e => by have := hp.1 f (List.mem_of_getElem? hk); rw [e, hx] at this; exact ltB_irrefl _ this]
/-- What a change of the plain disk comes to, its list of files in place among it. -/
def RefOut2 (w : World) (p room : Nat) (fv : Value) (ys : List RF) (r : Int × List Fl) (e : Ending) (w' : World) : Prop :=
  e = .returned (.int .i64 r.1) ∧ ∃ ys' fv', ys'.map rval = r.2 ∧ RefE w' p room fv' ys' ∧ Mv (footR p fv ys) w w' ∧ ∀ k, footR p fv' ys' k → footR p fv ys k ∨ w.heap.size ≤ k
theorem RefOut.weak {w w' : World} {p room : Nat} {fv : Value} {ys ys' : List RF} {S : Nat → Prop} {r : Int × List Fl} {e : Ending} (h : RefOut w p room fv ys ys' S w') (hS : ∀ k, S k → footR p fv ys k ∨ w.heap.size ≤ k) (he : e = .returned (.int .i64 r.1)) (hr : ys'.map rval = r.2) :
    RefOut2 w p room fv ys r e w' := by
  obtain ⟨fv', h1, h2, h3⟩ := h
  refine ⟨he, ys', fv', hr, h1, h2.mono fun k _ e => .inl e, fun k hk => ?_⟩
  rcases h3 k hk with h | h | h
  · exact .inl h
  · exact .inr h
  · exact hS k h
theorem RefE.put1 {w : World} {p room g n c : Nat} {ys : List RF} (h : RefE w p room (.slice (some ⟨g, 0, none⟩) n c) ys) {k j : Nat} {y y' : RF} {u : Value} (hj : j < 3) (hk : ys[k]? = some y) (hf : fcells y' = (fcells y).set j u) (hnm : y'.nm = y.nm)
    (hat : BytesAt w y'.v y'.bs) (hle : y'.bs.length ≤ y.bs.length) (hn : y'.n ≤ y'.bs.length) (hp : (ys.map rval).Pairwise fun a b => bl a.1 < bl b.1) :
    RefE (w.setCell ⟨g, k * 3 + j, none⟩ u) p room (.slice (some ⟨g, 0, none⟩) n c) (ys.set k y') := by
  obtain ⟨hkl, hky⟩ := List.getElem?_eq_some_iff.1 hk
  have hn' : n = ys.length := by
    obtain ⟨A, c', e, _⟩ := own_rd_f h.row
    injection e
  subst hn'
  obtain ⟨cs, hcs⟩ : ∃ cs, w.heap[g]? = some (.cells cs 66 (0, 0)) := by
    rcases h.row.2 with ⟨e1, _⟩ | ⟨g', cap', cur, e1, hB, hh, _⟩
    · cases e1
    · injection e1 with e1; injection e1 with e1; injection e1 with e1
      exact ⟨cur, by rw [e1]; exact hh⟩
  have hpg : p ≠ g := fun e => by
    have := h.box
    rw [e, hcs] at this
    injection this with this; injection this with _ this
    exact absurd this (by decide)
  have hmem : ∀ z ∈ ys.set k y', z = y' ∨ z ∈ ys := fun z hz => (List.mem_or_eq_of_mem_set hz).symm
  refine ⟨(set_other _ _ _ _ hpg).trans h.box, ?_, fun z hz => ?_, ⟨?_, h.fits.2.1, by rw [List.length_set]; exact h.fits.2.2⟩, fun z hz => ?_⟩
  · rw [List.length_set, flat_set hj ys k y hk hf]
    exact own_setF h.row (by omega) u
  · have hb : BytesAt w z.v z.bs := by
      rcases hmem z hz with rfl | hm
      · exact hat
      · exact h.at_ z hm
    exact hb.moved fun b hb' => set_other _ _ _ _ fun e => hb.ne hcs (by decide) (by rw [← e]; exact hb')
  · have hd : lenL ((ys.set k y').map rval) ≤ lenL (ys.map rval) := by
      rw [List.map_set]
      have hlk : (ys.map rval)[k]? = some (rval y) := by rw [List.getElem?_map, hk]; rfl
      rw [← upd_set (f := rval y) hp hlk hnm]
      exact upd_len (s := y.nm) (f := rval y) (lookR_some hp hk rfl) _ hnm hle (hp.imp fun {a b} hlt e => by rw [e] at hlt; exact ltB_irrefl _ hlt)
    exact Nat.le_trans hd h.fits.1
  · rcases hmem z hz with rfl | hm
    · exact ⟨hn, by rw [hnm]; exact (h.each y (List.mem_of_getElem? hk)).2⟩
    · exact h.each z hm
section
set_option maxHeartbeats 1600000
set_option maxRecDepth 100000
variable {w : World} {p room : Nat} {fv : Value} {ys : List RF}
theorem rsync_any (h : RefE w p room fv ys) (s : ByteArray) (hp : (ys.map rval).Pairwise fun a b => bl a.1 < bl b.1) : Calls Try.prog 28 #[.pointer (some ⟨p, 0, none⟩), .string s] w (RefOut2 w p room fv ys (syncD (ys.map rval) s)) := by
  have HA := Lib.hid (rat_any h s); have H := Lib.hid h; have HP := Lib.hid hp
  clear h hp
  go_enter Try.func28, Try.ntmps28
  go_wp2_with fail
  with_reducible refine HA.out.mono ?_
  rintro e w1 ⟨⟨rfl, hn⟩ | ⟨k, y, hk, hn, rfl⟩, hb1⟩
  · have HB := Lib.hid hb1
    have HL := Lib.hid (lookR_none hn)
    clear hn hb1
    go_wp2
    go_ret
    unfold syncD
    rw [HL.out]
    exact ⟨rfl, ys, fv, rfl, H.out.below HB.out, ⟨HB.out.os, HB.out.tape, HB.out.output, HB.out.size, fun k hk _ => HB.out.block k hk⟩, fun k hk => .inl hk⟩
  · subst hn
    have HL := Lib.hid (lookR_some HP.out hk rfl)
    have HB := Lib.hid hb1
    have h1 := H.out.below hb1
    have c0 := cell_blk h1.box 0; have c1 := cell_blk h1.box 1
    simp only [List.getElem?_toArray, List.getElem?_cons_succ, List.getElem?_cons_zero] at c0 c1
    have hyb := h1.at_ y (List.mem_of_getElem? hk)
    obtain ⟨A, c, rfl, hr, hc1, hc2⟩ := own_rd_f h1.row
    obtain ⟨b, off, rfl, hcl⟩ := hr.flat fcells_len (by decide) hk
    have hoff : off = 0 := by
      rcases h1.row.2 with ⟨e1, _⟩ | ⟨g', cap', cur, e1, hB, hh, _⟩
      · cases e1
      · injection e1 with e1; injection e1 with e1; injection e1
    subst hoff
    have d1 := hcl 1 _ rfl; have d2 := hcl 2 _ rfl
    obtain ⟨Ay, cy, hyv, -, -, -⟩ := hyb.rd
    rw [hyv] at d1
    obtain ⟨m, hm⟩ : ∃ m, m = y.bs.length := ⟨_, rfl⟩
    rw [← hm] at d1
    have hg : ∃ cs, w1.heap[b]? = some (.cells cs 66 (0, 0)) := by
      rcases h1.row.2 with ⟨e1, _⟩ | ⟨g', cap', cur, e1, hB, hh, _⟩
      · cases e1
      · injection e1 with e1; injection e1 with e1; injection e1 with e1
        exact ⟨cur, by rw [e1]; exact hh⟩
    obtain ⟨cs, hg⟩ := hg
    have f2 := free_blk hg (k * 3 + 2)
    rw [Nat.zero_add] at d1 d2
    have hput := fun N => (h1.below (below_drewN (Below.refl _ w1) N)).put1 (k := k) (j := 2) (y := y) (y' := { y with n := y.bs.length }) (u := .int .i64 (y.bs.length : Nat)) (by decide) hk rfl rfl (hyb.moved fun _ _ => rfl) (Nat.le_refl _) (Nat.le_refl _) HP.out
    have hfin : ∀ N, RefOut2 w p room (.slice (some ⟨b, 0, none⟩) ys.length c) ys (syncD (ys.map rval) y.nm) (.returned (.int .i64 0)) ((w1.drewN N).setCell ⟨b, k * 3 + 2, none⟩ (.int .i64 (m : Nat))) := fun N => by
      unfold syncD
      rw [HL.out]
      refine ⟨rfl, _, _, ?_, by rw [hm]; exact hput N, ?_, fun k' hk' => ?_⟩
      · rw [List.map_set]
        exact (upd_set HP.out (f := rval y) (x := (y.nm, y.bs, y.bs.length)) (by rw [List.getElem?_map, hk]; rfl) rfl).symm
      · exact (show Mv (footR p _ ys) w w1 from ⟨HB.out.os, HB.out.tape, HB.out.output, HB.out.size, fun k hk _ => HB.out.block k hk⟩).drewN N |>.setCell (p := ⟨b, k * 3 + 2, none⟩) (fun _ => .inr (.inl rfl)) _
      · rcases hk' with hk' | hk' | ⟨z, hz, hk'⟩
        · exact .inl (.inl hk')
        · exact .inl (.inr (.inl hk'))
        · rcases List.mem_or_eq_of_mem_set hz with hm2 | rfl
          · exact .inl (.inr (.inr ⟨z, hm2, hk'⟩))
          · exact .inl (.inr (.inr ⟨y, List.mem_of_getElem? hk, hk'⟩))
    have HF := Lib.hid hfin
    have hkl : k < ys.length := (List.getElem?_eq_some_iff.1 hk).1
    have k0 : ¬ (k : Int) < 0 := by omega
    have k00 : (0 : Int) ≤ (k : Int) := by omega
    have k1 : (k : Int) < (ys.length : Int) := by omega
    have k2 : (k : Int) ≤ (c : Int) := by omega
    clear hb1 hk HA h1 hr hcl hyb hyv hg hput hfin hm
    go_wp2
    go_region
    go_wp2
    go_ret
    exact HF.out _
end
end Go.Proofs.Ytnmbjhpecblioaa
