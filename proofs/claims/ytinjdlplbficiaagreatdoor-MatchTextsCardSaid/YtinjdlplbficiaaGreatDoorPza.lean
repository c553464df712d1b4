/-
  Parse: the plain answers' own.
-/
import Derived.Test.YtinjdlplbficiaaGreatDoorPz9
import Derived.Test.YtinjdlplbficiaaGreatDoorQz
namespace Go.Proofs.YtinjdlplbficiaaGreatDoor
set_option linter.unusedVariables false
set_option linter.unusedSimpArgs false
open Go.RowKit

theorem prC_set4 (E : Env) (i : Nat) (v : Value) (top z : Int) (s : ByteArray) (size : Int) (plain : Bool) (bad e d : Nat) : (prC E i v top s size plain bad e d).setIfInBounds 4 (.int .i64 z) = prC E i v z s size plain bad e d := rfl
theorem prC_set5 (E : Env) (i : Nat) (v : Value) (top : Int) (s s' : ByteArray) (size : Int) (plain : Bool) (bad e d : Nat) : (prC E i v top s size plain bad e d).setIfInBounds 5 (.string s') = prC E i v top s' size plain bad e d := rfl
/-- A pattern in memory, as the plain answers keep it: in the box of the parser that read it. -/
def RxI (w : World) (p : Nat) (t : Re) : Prop := ∃ (E : Env) (i : Nat) (v : Value) (us : List Value) (N : List Nd) (top : Nat) (s : ByteArray) (size : Int) (plain : Bool) (bad d : Nat),
  w.heap[p]? = some (.cells (prC E i v (top : Nat) s size plain bad 0 d) 139 (0, 0)) ∧ NsIs w (p + 1) v us N ∧ Rep N top t ∧ N.length ≤ 1200
def RpOut (w : World) (r : Except Flt Re) (e : Ending) (w' : World) : Prop :=
  match r with
  | .ok t => ∃ p, e = .returned (.tuple #[.pointer (some ⟨p, 3, none⟩), .int .i64 0, .int .i64 0]) ∧ w.heap.size ≤ p ∧ RxI w' p t ∧ Below w.heap.size w w'
  | .error f => e = .returned (.tuple #[.pointer none, .int .i64 (f.1 : Nat), .int .i64 (f.2 : Nat)]) ∧ Below w.heap.size w w'
theorem RxI.below {w w' : World} {p : Nat} {t : Re} (h : RxI w p t) (m : Below w.heap.size w w') : RxI w' p t := by
  obtain ⟨E, i, v, us, N, top, s, size, plain, bad, d, hb, hn, hr, hl⟩ := h
  exact ⟨E, i, v, us, N, top, s, size, plain, bad, d, (m.block _ (blk_lt hb)).trans hb, ⟨hn.len, own_mv (S := fun _ => False) hn.row (Mv.of_below m _) fun _ _ f => f, fun i u a hu ha => own_mv (S := fun _ => False) (hn.sp i u a hu ha) (Mv.of_below m _) fun _ _ f => f⟩, hr, hl⟩
theorem RP.cell4 {w : World} {p : Nat} {E : Env} {l : List Pc} {d : Nat} {v : Value} {us : List Value} {N : List Nd} (h : RP w p E l d v us N) (z : Nat) :
    ∀ W', W' = w.setCell ⟨p, 4, none⟩ (.int .i64 (z : Nat)) → RP W' p E l d v us N ∧ Mv (fun k => k = p) w W' ∧ ∃ s size plain bad, W'.heap[p]? = some (.cells (prC E (E.at' l) v (z : Nat) s size plain bad 0 d) 139 (0, 0)) := by
  intro W' e
  have m : Mv (fun k => k = p) w W' := by rw [e]; exact (Mv.refl (fun k => k = p) w).setCell (p := ⟨p, 4, none⟩) (fun _ => rfl) _
  obtain ⟨top, s, size, plain, bad, hb⟩ := h.box
  have k1 := set_blk hb 4 (.int .i64 (z : Nat))
  rw [prC_set4] at k1
  exact ⟨h.turn m ⟨z, s, size, plain, bad, by rw [e]; exact k1⟩ h.suf h.ne, m, s, size, plain, bad, by rw [e]; exact k1⟩
theorem RE.cell4 {w : World} {p : Nat} {E : Env} {f : Flt} {v : Value} {M : Nat} (h : RE w p E f v M) (z : Int) :
    ∀ W', W' = w.setCell ⟨p, 4, none⟩ (.int .i64 z) → RE W' p E f v M ∧ Mv (fun k => k = p) w W' := by
  intro W' e
  have m : Mv (fun k => k = p) w W' := by rw [e]; exact (Mv.refl (fun k => k = p) w).setCell (p := ⟨p, 4, none⟩) (fun _ => rfl) _
  obtain ⟨i, top, s, size, plain, d, hb⟩ := h.box
  obtain ⟨n, xs, hn, ho⟩ := h.ns
  have k1 := set_blk hb 4 (.int .i64 z)
  rw [prC_set4] at k1
  exact ⟨⟨⟨i, z, s, size, plain, d, by rw [e]; exact k1⟩, h.err, n, xs, hn, own_mv ho m fun k hk => by have := (ho.lt k hk).1; omega⟩, m⟩
theorem Mvd.belowP {p : Nat} {v' : Value} {w W w' : World} (m : Mvd p (.slice none 0 0) v' W w') (h : Below w.heap.size w W) (hp : w.heap.size ≤ p) : Below w.heap.size w w' :=
  h.trans (m.mv.belowB h.size fun k hk e => by
    rcases e with e | e
    · omega
    · cases e)
section
set_option maxHeartbeats 6400000
set_option maxRecDepth 100000
theorem rparse_any (s : ByteArray) (w : World) : Calls Tryz.prog 73 #[.string s] w (RpOut w (rxP (bl s))) := by
  obtain ⟨RES, hRES⟩ : ∃ RES, RES = rxP (bl s) := ⟨_, rfl⟩
  rw [← hRES]
  unfold rxP at hRES
  rw [bl_len] at hRES
  by_cases hl : 256 < s.size
  · rw [if_pos hl] at hRES
    have HR := Lib.hid hRES; clear hRES
    have g : (256 : Int) < (s.size : Int) := by omega
    go_enter Tryz.func73, Tryz.ntmps73
    go_wp2
    go_ret3
    rw [HR.out]
    exact ⟨rfl, RowKit.Below.refl _ _⟩
  · rw [if_neg hl] at hRES
    have g : ¬ (256 : Int) < (s.size : Int) := by omega
    have HC := Lib.hid (rchars_any s w (by omega))
    have HR := Lib.hid hRES
    have hfw : s.size ≤ 256 := by omega
    clear hRES hl
    go_enter Tryz.func73, Tryz.ntmps73
    go_wp2_with fail
    refine HC.out.mono ?_
    rintro e w1 ⟨A, c, rfl, hlc, hcm, hab, hrd, hb1⟩
    clear HC
    obtain ⟨E, hE⟩ : ∃ E : Env, E = ⟨s, A, c⟩ := ⟨_, rfl⟩
    have hch : chAt 0 (bl s) = E.ch := by rw [hE]; rfl
    rw [hch] at hlc hrd ⊢
    obtain ⟨p, hp⟩ : ∃ p, p = w1.heap.size := ⟨_, rfl⟩
    obtain ⟨w3, hw3⟩ : ∃ w3, w3 = w1.alloc (.cells #[.slice A E.ch.length c, .int .i64 0, .int .i64 (s.size : Nat), .slice none 0 0, .int .i64 0, .string s, .int .i64 0, .bool true, .int .i64 0, .int .i64 0, .int .i64 0] 139) := ⟨_, rfl⟩
    have hbx3 : w3.heap[p]? = some (.cells (prC E 0 (.slice none 0 0) 0 s 0 true 0 0 0) 139 (0, 0)) := by rw [hw3, hp, hE]; exact heap_alloc_new _ _
    have hb3 : Below w1.heap.size w1 w3 := by rw [hw3]; exact (RowKit.Below.refl _ _).alloc (Nat.le_refl _) _
    have hpl : E.pl ≠ [] := placesAt_ne _ _
    have hat : E.at' E.pl = 0 := by unfold Env.at'; omega
    have H3 := Lib.hid (show RP w3 p E E.pl 0 (.slice none 0 0) [] [] from ⟨⟨0, s, 0, true, 0, by rw [hat]; exact hbx3⟩, List.suffix_refl _, hpl, ⟨rfl, ⟨rfl, .inl ⟨rfl, rfl⟩⟩, fun i u a hu => by simp at hu⟩, by have h5 := hrd.below hb3; rw [hE] at h5 ⊢; exact h5, fun b e => by have := hab b (by rw [hE] at e; exact e); omega, by rw [hE] at hlc ⊢; exact ⟨hlc, hcm⟩, by rw [hE]; show s.size ≤ 1000; omega⟩)
    have HB3 := Lib.hid (hb1.trans (hb3.mono hb1.size))
    have HPW := Lib.hid (show w.heap.size ≤ p by rw [hp]; exact hb1.size)
    have hln : E.pl.length ≤ 257 := by
      have := places_len (bl s) 0
      rw [bl_len] at this
      have h9 : E.pl = placesAt 0 (bl s) := by rw [hE]; rfl
      rw [h9]; omega
    have hpe : placesAt 0 (bl s) = E.pl := by rw [hE]; rfl
    have HALT := Lib.hid (alt_is p E E.pl 0 (.slice none 0 0) [] [] w3 H3.out (grpP 20) _ (groups 20 0 rfl) (grpP_ok 20) (by simp; omega) (by decide) (by decide))
    have hr := HR.out
    unfold wholeP at hr
    rw [hpe] at hr
    generalize patP (grpP 20) E.pl = R at HALT hr
    have HRR := Lib.hid hr
    have HW3 := Lib.hid hw3; have HP := Lib.hid hp
    clear hw3 hbx3 hb3 hpl hat hlc hcm hab hrd hb1 hE hch hr HR hpe hp
    go_wp2_with fail
    rw [← HW3.out, ← HP.out]
    refine HALT.out.mono ?_
    intro e w4 ho
    cases R with
    | error f =>
      obtain ⟨n, v4, rfl, h4, m4⟩ := ho
      have hr2 := HRR.out
      simp only at hr2
      have HR2 := Lib.hid hr2
      obtain ⟨w5, hw5⟩ : ∃ w5, w5 = w4.setCell ⟨p, 4, none⟩ (.int .i64 (n : Nat)) := ⟨_, rfl⟩
      obtain ⟨h5, m5⟩ := h4.cell4 n w5 hw5
      obtain ⟨i4, top4, s4, size4, plain4, d4, hbx4, -⟩ := h4.cells
      have k44 := cell_blk hbx4 4
      have f44 := free_blk hbx4 4
      replace k44 : w4.cell? ⟨p, 4, none⟩ = some (.int .i64 top4) := k44
      obtain ⟨i, top, s', size, plain, d, hbx, e0, e1, e3, e6, e7, e8, e9, e10⟩ := h5.cells
      have HF := Lib.hid (fun q => fail_err p 8 E f v4 _ (w5.drewN q) (h5.below (drewN_below w5 q)))
      have HB5 := Lib.hid ((m4.p m5).belowP HB3.out HPW.out)
      have he := h5.err
      have f1 : ((f.2 : Int) != 0) = true := by rw [bne_iff_ne]; omega
      have HW5 := Lib.hid hw5
      clear h4 m4 h5 m5 hbx4 hbx hw5 hr2 HRR HALT he e3 e6 e7 e10
      obtain ⟨f1v, f2v⟩ := f
      simp only at e8 e9 f1 HR2 HF
      go_wp2_with fail
      rw [← HW5.out]
      by_cases hi : i < E.ch.length
      · have d1 : decide ((i : Int) < (E.ch.length : Int)) = true := by simp; omega
        have d2 : decide (i < E.ch.length) = true := by simp; omega
        have d3 : (i : Int) < (E.ch.length : Int) := by omega
        go_quiet (fail)
        go_wp2_with fail
        refine (HF.out _).mono ?_
        rintro e w6 ⟨rfl, rfl⟩
        go_wp2_with fail
        go_quiet (fail)
        go_wp2
        go_ret3
        rw [HR2.out]
        exact ⟨rfl, below_drewN (below_drewN HB5.out _) _⟩
      · have d1 : decide ((i : Int) < (E.ch.length : Int)) = false := by simp; omega
        have d2 : decide (i < E.ch.length) = false := by simp; omega
        have d3 : ¬ (i : Int) < (E.ch.length : Int) := by omega
        go_quiet (fail)
        go_wp2_with fail
        go_quiet (fail)
        go_wp2
        go_ret3
        rw [HR2.out]
        exact ⟨rfl, below_drewN (below_drewN HB5.out _) _⟩
    | ok r =>
      obtain ⟨t, l1⟩ := r
      obtain ⟨n, v4, us4, N4, rfl, h4, hrep, hk, m4⟩ := ho
      rw [List.nil_append] at h4 hrep hk
      have hr2 := HRR.out
      simp only at hr2
      obtain ⟨w5, hw5⟩ : ∃ w5, w5 = w4.setCell ⟨p, 4, none⟩ (.int .i64 (n : Nat)) := ⟨_, rfl⟩
      obtain ⟨h5, m5, sx, sizex, plainx, badx, hbx5⟩ := h4.cell4 n w5 hw5
      obtain ⟨top4, s4, size4, plain4, bad4, hbx4, -⟩ := h4.cells
      have k44 := cell_blk hbx4 4
      have f44 := free_blk hbx4 4
      replace k44 : w4.cell? ⟨p, 4, none⟩ = some (.int .i64 top4) := k44
      obtain ⟨top, s', size, plain, bad, hbx, e0, e1, e2, e3, e6, e7, e8, e9, e10⟩ := h5.cells
      have HB5 := Lib.hid ((m4.p m5).belowP HB3.out HPW.out)
      have HW5 := Lib.hid hw5
      obtain ⟨g1, g2⟩ := h5.pos
      have g3 := E.len_eq
      by_cases hend : nowP l1 = -1
      · rw [if_pos hend] at hr2
        have HR2 := Lib.hid hr2
        have hl1 := (ok_end h5.ok).mp hend
        have d1 : decide ((E.at' l1 : Int) < (E.ch.length : Int)) = false := by simp; omega
        have d2 : decide (E.at' l1 < E.ch.length) = false := by simp; omega
        have d3 : ¬ (E.at' l1 : Int) < (E.ch.length : Int) := by omega
        have HI := Lib.hid (show RxI w5 p t from ⟨E, _, v4, us4, N4, n, sx, sizex, plainx, badx, 0, hbx5, h5.ns, hrep, by simp at hk; omega⟩)
        clear h4 m4 h5 m5 hbx4 hbx hbx5 hw5 hr2 HRR HALT e2 e3 e6 e7 e8 e10 hend hl1 g1 g2 g3 hrep hk
        go_wp2_with fail
        rw [← HW5.out]
        go_quiet (fail)
        go_wp2
        go_ret3
        rw [HR2.out]
        exact ⟨p, rfl, HPW.out, HI.out.below (drewN_below _ _), below_drewN HB5.out _⟩
      · rw [if_neg hend] at hr2
        have HR2 := Lib.hid hr2
        have hl1 : l1.length ≠ 1 := fun e => hend ((ok_end h5.ok).mpr e)
        have d1 : decide ((E.at' l1 : Int) < (E.ch.length : Int)) = true := by simp; omega
        have d2 : decide (E.at' l1 < E.ch.length) = true := by simp; omega
        have d3 : (E.at' l1 : Int) < (E.ch.length : Int) := by omega
        have HF := Lib.hid (fun q => fail_is p 8 E l1 0 N4.length v4 us4 N4 (w5.drewN q) (h5.below (drewN_below w5 q)) (by decide) (Nat.le_refl _))
        clear h4 m4 h5 m5 hbx4 hbx hbx5 hw5 hr2 HRR HALT e2 e3 e6 e7 e8 e10 hend hl1 g1 g2 g3 hrep hk
        go_wp2_with fail
        rw [← HW5.out]
        go_quiet (fail)
        go_wp2_with fail
        refine (HF.out _).mono ?_
        rintro e w6 ⟨rfl, h6, m6⟩
        obtain ⟨i, top', s'', size', plain', d', hb6, k0, k1, k3, k6, k7, k8, k9, k10⟩ := h6.cells
        have HB6 := Lib.hid ((below_drewN HB5.out _).trans (m6.belowB (by have := HB5.out.size; simpa using this) fun k hk e => by have := HPW.out; omega))
        have q9 : w6.cell? ⟨p, 9, none⟩ = some (.int .i64 8) := k9
        clear h6 m6 hb6 k0 k1 k3 k6 k7 k9 k10 HF
        go_wp2_with fail
        go_quiet (fail)
        go_wp2
        go_ret3
        rw [HR2.out]
        exact ⟨rfl, below_drewN HB6.out _⟩
end
end Go.Proofs.YtinjdlplbficiaaGreatDoor
