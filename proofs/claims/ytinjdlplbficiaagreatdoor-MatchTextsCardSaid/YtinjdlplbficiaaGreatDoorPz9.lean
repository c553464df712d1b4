/-
  Atoms, as the plain answers read them.
  Branches, as the plain answers read them.
  Branches beside one another, and groups, as the plain answers read them.
-/
import Derived.Test.YtinjdlplbficiaaGreatDoorPz6
namespace Go.Proofs.YtinjdlplbficiaaGreatDoor
set_option linter.unusedVariables false
set_option linter.unusedSimpArgs false
section
set_option linter.unusedVariables false
set_option linter.unusedSimpArgs false
open Go.RowKit

theorem RP.cell6 {w : World} {p : Nat} {E : Env} {l : List Pc} {d : Nat} {v : Value} {us : List Value} {N : List Nd} (h : RP w p E l d v us N) (z : Int) :
    ∀ W', W' = w.setCell ⟨p, 6, none⟩ (.int .i64 z) → RP W' p E l d v us N ∧ Mv (fun k => k = p) w W' := by
  intro W' e
  have m : Mv (fun k => k = p) w W' := by rw [e]; exact (Mv.refl (fun k => k = p) w).setCell (p := ⟨p, 6, none⟩) (fun _ => rfl) _
  obtain ⟨top, s, size, plain, bad, hb⟩ := h.box
  have k1 := set_blk hb 6 (.int .i64 z)
  rw [prC_set6] at k1
  exact ⟨h.turn m ⟨top, s, z, plain, bad, by rw [e]; exact k1⟩ h.suf h.ne, m⟩
theorem RP.cell7 {w : World} {p : Nat} {E : Env} {l : List Pc} {d : Nat} {v : Value} {us : List Value} {N : List Nd} (h : RP w p E l d v us N) (z : Bool) :
    ∀ W', W' = w.setCell ⟨p, 7, none⟩ (.bool z) → RP W' p E l d v us N ∧ Mv (fun k => k = p) w W' := by
  intro W' e
  have m : Mv (fun k => k = p) w W' := by rw [e]; exact (Mv.refl (fun k => k = p) w).setCell (p := ⟨p, 7, none⟩) (fun _ => rfl) _
  obtain ⟨top, s, size, plain, bad, hb⟩ := h.box
  have k1 := set_blk hb 7 (.bool z)
  rw [prC_set7] at k1
  exact ⟨h.turn m ⟨top, s, size, z, bad, by rw [e]; exact k1⟩ h.suf h.ne, m⟩
theorem RP.cell10 {w : World} {p : Nat} {E : Env} {l : List Pc} {d : Nat} {v : Value} {us : List Value} {N : List Nd} (h : RP w p E l d v us N) (z : Nat) :
    ∀ W', W' = w.setCell ⟨p, 10, none⟩ (.int .i64 (z : Nat)) → RP W' p E l z v us N ∧ Mv (fun k => k = p) w W' := by
  intro W' e
  have m : Mv (fun k => k = p) w W' := by rw [e]; exact (Mv.refl (fun k => k = p) w).setCell (p := ⟨p, 10, none⟩) (fun _ => rfl) _
  obtain ⟨top, s, size, plain, bad, hb⟩ := h.box
  have k1 := set_blk hb 10 (.int .i64 (z : Nat))
  rw [prC_set10] at k1
  exact ⟨h.turn m ⟨top, s, size, plain, bad, by rw [e]; exact k1⟩ h.suf h.ne, m⟩
theorem RE.cell7 {w : World} {p : Nat} {E : Env} {f : Flt} {v : Value} {M : Nat} (h : RE w p E f v M) (z : Bool) :
    ∀ W', W' = w.setCell ⟨p, 7, none⟩ (.bool z) → RE W' p E f v M ∧ Mv (fun k => k = p) w W' := by
  intro W' e
  have m : Mv (fun k => k = p) w W' := by rw [e]; exact (Mv.refl (fun k => k = p) w).setCell (p := ⟨p, 7, none⟩) (fun _ => rfl) _
  obtain ⟨i, top, s, size, plain, d, hb⟩ := h.box
  obtain ⟨n, xs, hn, ho⟩ := h.ns
  have k1 := set_blk hb 7 (.bool z)
  rw [prC_set7] at k1
  exact ⟨⟨⟨i, top, s, size, z, d, by rw [e]; exact k1⟩, h.err, n, xs, hn, own_mv ho m fun k hk => by have := (ho.lt k hk).1; omega⟩, m⟩
theorem RE.more {w : World} {p : Nat} {E : Env} {f : Flt} {v : Value} {M M' : Nat} (h : RE w p E f v M) (hM : M ≤ M') : RE w p E f v M' := by
  obtain ⟨n, xs, hn, ho⟩ := h.ns
  exact ⟨h.box, h.err, n, xs, by omega, ho⟩
theorem escapeP_eq (l : List Pc) : escapeP l = match escG l with | .error f => .error f | .ok (g, l') => .ok (.set g false, l') := by
  unfold escapeP escG
  cases manyL l with
  | some g => rfl
  | none =>
    cases rescP 0 l with
    | error f => rfl
    | ok r => rfl
theorem esc_shr {l : List Pc} (h : OkL l) (h92 : nowP l = 92) {g : Spans} {l' : List Pc} (e : escG l = .ok (g, l')) : l'.length < l.length := by
  have hn : nowP l ≠ -1 := by rw [h92]; decide
  have e2 : escapeP l = .ok (.set g false, l') := by rw [escapeP_eq, e]
  exact (escapeP_shr h hn e2).lt
section
set_option maxHeartbeats 1600000
set_option maxRecDepth 100000
theorem atom_class (p : Nat) (E : Env) (l : List Pc) (d : Nat) (v : Value) (us : List Value) (N : List Nd) (w : World) (h : RP w p E l d v us N) (grp : List Pc → Rs Re) (M : Nat) (hK : N.length + 4 * l.length ≤ 1100) (hM : 1102 ≤ M) (hc : nowP l = 91) : Calls Tryz.prog 112 #[.pointer (some ⟨p, 0, none⟩)] w (OutN p E d v N (N.length + 4 * l.length - 2) M w (atomP grp l)) := by
  have hlp : 1 ≤ l.length := h.pos.1
  have HN := Lib.hid (now_rp p E l d v us N w h)
  have HOKL := Lib.hid h.ok
  have hr : atomP grp l = classP l := by unfold atomP; rw [if_neg (by rw [hc]; decide), if_pos hc]
  rw [hr]
  have hnr : nowR l = 91 := nowR_eq hc (by decide)
  rw [hnr] at HN
  have hn1 : nowP l ≠ -1 := by rw [hc]; decide
  have HC := Lib.hid (fun W (k : RP W p E l d v us N) => class_is p E l d v us N W k hc (by omega))
  obtain ⟨RES, hRES⟩ : ∃ RES, RES = classP l := ⟨_, rfl⟩
  rw [← hRES] at HC ⊢
  clear h hr hnr hc hRES
  go_enter Tryz.func112, Tryz.ntmps112
  go_wp2_with fail
  refine HN.out.mono ?_
  rintro e w1 ⟨rfl, h1, m1⟩
  obtain ⟨top, s, size, plain, bad, hb, c0, c1, c2, c3, c6, c7, c8, c9, c10⟩ := h1.cells
  have ff := fun i => free_blk hb i
  have H1 := Lib.hid h1; have M1 := Lib.hid m1
  clear h1 m1 hb c0 c2 c3 c8
  obtain ⟨wq1, hwq1⟩ : ∃ wq1, wq1 = w1.setCell ⟨p, 6, none⟩ (.int .i64 (wrap64 (size + 1))) := ⟨_, rfl⟩
  obtain ⟨r1, n1⟩ := H1.out.cell6 _ wq1 hwq1
  obtain ⟨wz, hwz⟩ : ∃ wz, wz = wq1.setCell ⟨p, 7, none⟩ (.bool false) := ⟨_, rfl⟩
  obtain ⟨r2, n2⟩ := r1.cell7 _ wz hwz
  have HZ := Lib.hid r2; have MZ := Lib.hid (Mp.trans (Mp.trans M1.out n1) n2)
  have HZW := Lib.hid (show wz = ((w1).setCell ⟨p, 6, none⟩ (.int .i64 (wrap64 (size + 1)))).setCell ⟨p, 7, none⟩ (.bool false) by rw [hwz, hwq1])
  clear r1 n1 r2 n2 hwq1 hwz
  have HCC := Lib.hid (HC.out _ HZ.out)
  go_wp2_with fail
  rw [← HZW.out]
  refine HCC.out.mono ?_
  intro e w4 ho
  cases RES with
  | error f =>
    obtain ⟨n, v', rfl, h4, m4⟩ := ho
    have H4 := Lib.hid h4; have M4 := Lib.hid m4
    clear h4 m4
    go_wp2
    go_ret
    exact ⟨n, v', rfl, H4.out.more (by omega), (Mvd.box MZ.out).trans M4.out⟩
  | ok r =>
    obtain ⟨t, l'⟩ := r
    obtain ⟨n, v', us', N2, rfl, h4, hrep, hk, m4⟩ := ho
    have H4 := Lib.hid (And.intro h4 (And.intro hrep hk)); have M4 := Lib.hid m4
    clear h4 hrep hk m4
    go_wp2
    go_ret
    exact ⟨n, v', us', N2, rfl, H4.out.1, H4.out.2.1, H4.out.2.2, (Mvd.box MZ.out).trans M4.out⟩
theorem atom_dot (p : Nat) (E : Env) (l : List Pc) (d : Nat) (v : Value) (us : List Value) (N : List Nd) (w : World) (h : RP w p E l d v us N) (grp : List Pc → Rs Re) (M : Nat) (hK : N.length + 4 * l.length ≤ 1100) (hM : 1102 ≤ M) (hc : nowP l = 46) : Calls Tryz.prog 112 #[.pointer (some ⟨p, 0, none⟩)] w (OutN p E d v N (N.length + 4 * l.length - 2) M w (atomP grp l)) := by
  have hlp : 1 ≤ l.length := h.pos.1
  have HN := Lib.hid (now_rp p E l d v us N w h)
  have HOKL := Lib.hid h.ok
  have hr : atomP grp l = .ok (.set [] true, l.tail) := by unfold atomP; rw [if_neg (by rw [hc]; decide), if_neg (by rw [hc]; decide), if_neg (by rw [hc]; decide), if_pos hc]
  rw [hr]
  have hnr : nowR l = 46 := nowR_eq hc (by decide)
  rw [hnr] at HN
  have hn1 : nowP l ≠ -1 := by rw [hc]; decide
  have hlt := (Shr.tail h.ok hn1).lt
  have HLT := Lib.hid hlt
  clear h hr hnr hc hlt
  go_enter Tryz.func112, Tryz.ntmps112
  go_wp2_with fail
  refine HN.out.mono ?_
  rintro e w1 ⟨rfl, h1, m1⟩
  obtain ⟨top, s, size, plain, bad, hb, c0, c1, c2, c3, c6, c7, c8, c9, c10⟩ := h1.cells
  have ff := fun i => free_blk hb i
  have H1 := Lib.hid h1; have M1 := Lib.hid m1
  clear h1 m1 hb c0 c2 c3 c8
  have hwr : IntKind.i64.wrap ((E.at' l : Int) + 1) = (E.at' l : Int) + 1 := by have := H1.out.small; simp [IntKind.wrap, IntKind.bits, IntKind.signed]; omega
  obtain ⟨wq1, hwq1⟩ : ∃ wq1, wq1 = w1.setCell ⟨p, 6, none⟩ (.int .i64 (wrap64 (size + 1))) := ⟨_, rfl⟩
  obtain ⟨r1, n1⟩ := H1.out.cell6 _ wq1 hwq1
  obtain ⟨wq2, hwq2⟩ : ∃ wq2, wq2 = wq1.setCell ⟨p, 7, none⟩ (.bool false) := ⟨_, rfl⟩
  obtain ⟨r2, n2⟩ := r1.cell7 _ wq2 hwq2
  obtain ⟨wz, hwz⟩ : ∃ wz, wz = wq2.setCell ⟨p, 1, none⟩ (.int .i64 ((E.at' l : Int) + 1)) := ⟨_, rfl⟩
  obtain ⟨r3, n3⟩ := (r2.pass hn1).2 wz hwz
  have HZ := Lib.hid r3; have MZ := Lib.hid (Mp.trans (Mp.trans (Mp.trans M1.out n1) n2) n3)
  have HZW := Lib.hid (show wz = (((w1).setCell ⟨p, 6, none⟩ (.int .i64 (wrap64 (size + 1)))).setCell ⟨p, 7, none⟩ (.bool false)).setCell ⟨p, 1, none⟩ (.int .i64 ((E.at' l : Int) + 1)) by rw [hwz, hwq2, hwq1])
  clear r1 n1 r2 n2 r3 n3 hwq1 hwq2 hwz
  have HA := Lib.hid (add_rp p E l.tail d v us N ⟨0, 0, 0, [], true⟩ (.slice none 0 0) wz HZ.out (own_nil _ _) (by omega))
  go_wp2_with fail
  rw [← HZW.out]
  refine HA.out.mono ?_
  rintro e w5 ⟨v', rfl, h5, m5⟩
  have H5 := Lib.hid h5; have M5 := Lib.hid m5
  clear h5 m5
  go_wp2
  go_ret
  exact ⟨N.length, v', _, [⟨0, 0, 0, [], true⟩], rfl, H5.out, ⟨_, get_last N _, rfl, rfl, rfl⟩, by have := HLT.out; rw [List.length_append]; simp only [List.length_cons, List.length_nil]; omega, (Mvd.box MZ.out).trans M5.out⟩
theorem atom_plain (p : Nat) (E : Env) (l : List Pc) (d : Nat) (v : Value) (us : List Value) (N : List Nd) (w : World) (h : RP w p E l d v us N) (grp : List Pc → Rs Re) (M : Nat) (hK : N.length + 4 * l.length ≤ 1100) (hM : 1102 ≤ M) (h0 : 0 ≤ nowP l) (hs : specialP (nowP l) = false) : Calls Tryz.prog 112 #[.pointer (some ⟨p, 0, none⟩)] w (OutN p E d v N (N.length + 4 * l.length - 2) M w (atomP grp l)) := by
  have hlp : 1 ≤ l.length := h.pos.1
  have HN := Lib.hid (now_rp p E l d v us N w h)
  have HOKL := Lib.hid h.ok
  have hne : nowP l ≠ 40 ∧ nowP l ≠ 91 ∧ nowP l ≠ 92 ∧ nowP l ≠ 46 := by
    refine ⟨?_, ?_, ?_, ?_⟩ <;> (intro e; rw [e] at hs; cases hs)
  have hr : atomP grp l = .ok (.set [(nowP l, nowP l)] false, l.tail) := by unfold atomP; rw [if_neg hne.1, if_neg hne.2.1, if_neg hne.2.2.1, if_neg hne.2.2.2, if_pos (by rw [decide_eq_true h0, hs]; rfl)]
  rw [hr]
  have hn1 : nowP l ≠ -1 := by omega
  have hnr : nowR l = nowP l := by unfold nowR; rw [if_neg hn1, if_neg (by omega)]
  rw [hnr] at HN
  have hlt := (Shr.tail h.ok hn1).lt
  have HLT := Lib.hid hlt
  have q1 : (nowP l == 40) = false := by rw [beq_eq_false_iff_ne]; exact hne.1
  have q2 : (nowP l == 91) = false := by rw [beq_eq_false_iff_ne]; exact hne.2.1
  have q3 : (nowP l == 46) = false := by rw [beq_eq_false_iff_ne]; exact hne.2.2.2
  have q4 : (nowP l == 92) = false := by rw [beq_eq_false_iff_ne]; exact hne.2.2.1
  have q5 : decide (nowP l < 0) = false := by simp; exact h0
  have q6 : ¬ nowP l < 0 := by omega
  have HSP := Lib.hid (fun W => rspecial_any (nowP l) W)
  rw [hs] at HSP
  clear h hr hnr hlt hne hs h0
  go_enter Tryz.func112, Tryz.ntmps112
  go_wp2_with fail
  refine HN.out.mono ?_
  rintro e w1 ⟨rfl, h1, m1⟩
  obtain ⟨top, s, size, plain, bad, hb, c0, c1, c2, c3, c6, c7, c8, c9, c10⟩ := h1.cells
  have ff := fun i => free_blk hb i
  have H1 := Lib.hid h1; have M1 := Lib.hid m1
  clear h1 m1 hb c0 c2 c3 c8
  have hwr : IntKind.i64.wrap ((E.at' l : Int) + 1) = (E.at' l : Int) + 1 := by have := H1.out.small; simp [IntKind.wrap, IntKind.bits, IntKind.signed]; omega
  obtain ⟨wq1, hwq1⟩ : ∃ wq1, wq1 = w1.setCell ⟨p, 6, none⟩ (.int .i64 (wrap64 (size + 1))) := ⟨_, rfl⟩
  obtain ⟨r1, n1⟩ := H1.out.cell6 _ wq1 hwq1
  obtain ⟨wz, hwz⟩ : ∃ wz, wz = wq1.setCell ⟨p, 1, none⟩ (.int .i64 ((E.at' l : Int) + 1)) := ⟨_, rfl⟩
  obtain ⟨r2, n2⟩ := (r1.pass hn1).2 wz hwz
  have HZ := Lib.hid r2; have MZ := Lib.hid (Mp.trans (Mp.trans M1.out n1) n2)
  have HZW := Lib.hid (show wz = ((w1).setCell ⟨p, 6, none⟩ (.int .i64 (wrap64 (size + 1)))).setCell ⟨p, 1, none⟩ (.int .i64 ((E.at' l : Int) + 1)) by rw [hwz, hwq1])
  clear r1 n1 r2 n2 hwq1 hwz
  clear hn1
  obtain ⟨x, hx⟩ : ∃ x, nowP l = x := ⟨_, rfl⟩
  rw [hx] at HSP q1 q2 q3 q4 q5 q6 ⊢
  have hbz : Below wz.heap.size wz (wz.alloc (.cells (spC [(x, x)]).toArray 181)) := (RowKit.Below.refl _ _).alloc (Nat.le_refl _) _
  have HBZ := Lib.hid hbz
  have hown := own_fresh (w := wz) (e := 181) (size := 2) (n := 1) (xs := spC [(x, x)]) rfl (by decide)
  have HA := Lib.hid (add_rp p E l.tail d v us N ⟨0, 0, 0, [(x, x)], false⟩ _ _ (HZ.out.below hbz) (hown.lower (by have := HZ.out.lt; omega)) (by omega))
  have HWQ := Lib.hid (show wz.heap.size = w1.heap.size by rw [HZW.out]; simp [World.setCell])
  rw [HWQ.out] at HA
  have HX := Lib.hid hx
  clear hx hbz hown
  obtain ⟨wa, hwa⟩ : ∃ wa, wa = w1.setCell ⟨p, 6, none⟩ (.int .i64 (wrap64 (size + 1))) := ⟨_, rfl⟩
  go_wp2_with fail
  refine (HSP.out _).mono ?_
  rintro e w4 ⟨rfl, rfl⟩
  go_wp2_with fail
  rw [← HZW.out]
  refine HA.out.mono ?_
  rintro e w5 ⟨v', rfl, h5, m5⟩
  have H5 := Lib.hid h5; have M5 := Lib.hid m5
  clear h5 m5
  go_wp2
  go_ret
  exact ⟨N.length, v', _, [⟨0, 0, 0, [(x, x)], false⟩], rfl, H5.out, ⟨_, get_last N _, rfl, by rw [HX.out], rfl⟩, by have := HLT.out; rw [List.length_append]; simp only [List.length_cons, List.length_nil]; omega, (Mvd.box (Mp.below MZ.out HBZ.out)).trans M5.out⟩
theorem atom_bad (p : Nat) (E : Env) (l : List Pc) (d : Nat) (v : Value) (us : List Value) (N : List Nd) (w : World) (h : RP w p E l d v us N) (grp : List Pc → Rs Re) (M : Nat) (hK : N.length + 4 * l.length ≤ 1100) (hM : 1102 ≤ M) (hc : nowP l ≠ 40 ∧ nowP l ≠ 91 ∧ nowP l ≠ 92 ∧ nowP l ≠ 46) (hx : nowP l < 0 ∨ specialP (nowP l) = true) : Calls Tryz.prog 112 #[.pointer (some ⟨p, 0, none⟩)] w (OutN p E d v N (N.length + 4 * l.length - 2) M w (atomP grp l)) := by
  have hlp : 1 ≤ l.length := h.pos.1
  have HN := Lib.hid (now_rp p E l d v us N w h)
  have HOKL := Lib.hid h.ok
  have hr : atomP grp l = .error (atP l, 8) := by
    unfold atomP; rw [if_neg hc.1, if_neg hc.2.1, if_neg hc.2.2.1, if_neg hc.2.2.2, if_neg]; rfl
    intro e
    simp only [Bool.and_eq_true, decide_eq_true_eq, Bool.not_eq_true'] at e
    rcases hx with h | h
    · omega
    · rw [h] at e; cases e.2
  rw [hr]
  have hnn : (nowR l < 0 ∧ nowP l < 0) ∨ (0 ≤ nowP l ∧ nowR l = nowP l ∧ specialP (nowP l) = true) := by
    by_cases h0 : nowP l < 0
    · refine .inl ⟨?_, h0⟩
      unfold nowR; split
      · decide
      · split
        · decide
        · exact h0
    · refine .inr ⟨by omega, ?_, ?_⟩
      · unfold nowR; rw [if_neg (by omega), if_neg (by omega)]
      · rcases hx with h | h
        · exact absurd h h0
        · exact h
  have q1 : (nowR l == 40) = false := by rw [beq_eq_false_iff_ne]; rcases hnn with h | h; omega; rw [h.2.1]; exact hc.1
  have q2 : (nowR l == 91) = false := by rw [beq_eq_false_iff_ne]; rcases hnn with h | h; omega; rw [h.2.1]; exact hc.2.1
  have q3 : (nowR l == 46) = false := by rw [beq_eq_false_iff_ne]; rcases hnn with h | h; omega; rw [h.2.1]; exact hc.2.2.2
  have q4 : (nowR l == 92) = false := by rw [beq_eq_false_iff_ne]; rcases hnn with h | h; omega; rw [h.2.1]; exact hc.2.2.1
  have hn2 : nowR l < 0 ∨ (0 ≤ nowR l ∧ specialP (nowR l) = true) := by
    rcases hnn with h | h
    · exact .inl h.1
    · rw [h.2.1]; exact .inr ⟨h.1, h.2.2⟩
  clear hnn hc hx
  generalize nowR l = x at *
  clear h hr
  go_enter Tryz.func112, Tryz.ntmps112
  go_wp2_with fail
  refine HN.out.mono ?_
  rintro e w1 ⟨rfl, h1, m1⟩
  obtain ⟨top, s, size, plain, bad, hb, c0, c1, c2, c3, c6, c7, c8, c9, c10⟩ := h1.cells
  have ff := fun i => free_blk hb i
  have H1 := Lib.hid h1; have M1 := Lib.hid m1
  clear h1 m1 hb c0 c2 c3 c8
  obtain ⟨wz, hwz⟩ : ∃ wz, wz = w1.setCell ⟨p, 6, none⟩ (.int .i64 (wrap64 (size + 1))) := ⟨_, rfl⟩
  obtain ⟨r1, n1⟩ := H1.out.cell6 _ wz hwz
  have HZ := Lib.hid r1; have MZ := Lib.hid (Mp.trans M1.out n1)
  have HZW := Lib.hid (show wz = (w1).setCell ⟨p, 6, none⟩ (.int .i64 (wrap64 (size + 1))) by rw [hwz])
  clear r1 n1  hwz
  have HF := Lib.hid (fail_is p 8 E l d N.length v us N wz HZ.out (by decide) (Nat.le_refl _))
  rcases hn2 with hx | ⟨hx, hs⟩
  · have q5 : decide (x < 0) = true := decide_eq_true hx
    go_wp2_with fail
    rw [← HZW.out]
    refine HF.out.mono ?_
    rintro e w5 ⟨rfl, h5, m5⟩
    have H5 := Lib.hid h5; have M5 := Lib.hid (Mp.trans MZ.out m5)
    clear h5 m5
    go_wp2
    go_ret
    exact ⟨0, v, rfl, H5.out.more (by omega), Mvd.box M5.out⟩
  · have q5 : decide (x < 0) = false := by simp; exact hx
    have q6 : ¬ x < 0 := by omega
    have HSP := Lib.hid (fun W => rspecial_any x W)
    rw [hs] at HSP
    go_wp2_with fail
    refine (HSP.out _).mono ?_
    rintro e w4 ⟨rfl, rfl⟩
    go_wp2_with fail
    rw [← HZW.out]
    refine HF.out.mono ?_
    rintro e w5 ⟨rfl, h5, m5⟩
    have H5 := Lib.hid h5; have M5 := Lib.hid (Mp.trans MZ.out m5)
    clear h5 m5
    go_wp2
    go_ret
    exact ⟨0, v, rfl, H5.out.more (by omega), Mvd.box M5.out⟩
theorem atom_esc (p : Nat) (E : Env) (l : List Pc) (d : Nat) (v : Value) (us : List Value) (N : List Nd) (w : World) (h : RP w p E l d v us N) (grp : List Pc → Rs Re) (M : Nat) (hK : N.length + 4 * l.length ≤ 1100) (hM : 1102 ≤ M) (hc : nowP l = 92) : Calls Tryz.prog 112 #[.pointer (some ⟨p, 0, none⟩)] w (OutN p E d v N (N.length + 4 * l.length - 2) M w (atomP grp l)) := by
  have hlp : 1 ≤ l.length := h.pos.1
  have HN := Lib.hid (now_rp p E l d v us N w h)
  have HOKL := Lib.hid h.ok
  have hr : atomP grp l = escapeP l := by unfold atomP; rw [if_neg (by rw [hc]; decide), if_neg (by rw [hc]; decide), if_pos hc]
  rw [hr]
  have hnr : nowR l = 92 := nowR_eq hc (by decide)
  rw [hnr] at HN
  have hn1 : nowP l ≠ -1 := by rw [hc]; decide
  have HE := Lib.hid (fun W (k : RP W p E l d v us N) => escape_is p E l d v us N W k hc)
  have hsh := fun g l' e => esc_shr (l := l) h.ok hc (g := g) (l' := l') e
  obtain ⟨RES, hRES⟩ : ∃ RES, RES = escapeP l := ⟨_, rfl⟩
  rw [← hRES]
  rw [escapeP_eq] at hRES
  generalize escG l = R at HE hRES hsh
  have HR := Lib.hid hRES; have HSH := Lib.hid hsh
  clear h hr hnr hc hRES hsh
  go_enter Tryz.func112, Tryz.ntmps112
  go_wp2_with fail
  refine HN.out.mono ?_
  rintro e w1 ⟨rfl, h1, m1⟩
  obtain ⟨top, s, size, plain, bad, hb, c0, c1, c2, c3, c6, c7, c8, c9, c10⟩ := h1.cells
  have ff := fun i => free_blk hb i
  have H1 := Lib.hid h1; have M1 := Lib.hid m1
  clear h1 m1 hb c0 c2 c3 c8
  obtain ⟨wz, hwz⟩ : ∃ wz, wz = w1.setCell ⟨p, 6, none⟩ (.int .i64 (wrap64 (size + 1))) := ⟨_, rfl⟩
  obtain ⟨r1, n1⟩ := H1.out.cell6 _ wz hwz
  have HZ := Lib.hid r1; have MZ := Lib.hid (Mp.trans M1.out n1)
  have HZW := Lib.hid (show wz = (w1).setCell ⟨p, 6, none⟩ (.int .i64 (wrap64 (size + 1))) by rw [hwz])
  clear r1 n1  hwz
  have HEE := Lib.hid (HE.out _ HZ.out)
  go_wp2_with fail
  rw [← HZW.out]
  refine HEE.out.mono ?_
  intro e w4 ho
  clear c1 c6 c7 c9 c10 ff
  cases R with
  | error f =>
    obtain ⟨rfl, h4, m4⟩ := ho
    have H4 := Lib.hid h4; have M4 := Lib.hid (Mp.trans MZ.out m4)
    have hrr := HR.out
    simp only at hrr
    have HRR := Lib.hid hrr
    clear h4 m4 hrr HR
    have HW := Lib.hid (wide_any none 0 [] w4 (Rd.nil _ _))
    obtain ⟨i, top', s', size', plain', d', hb4, e0, e1, e3, e6, e7, e8, e9, e10⟩ := H4.out.cells
    have f4 := free_blk hb4 7
    clear hb4 e0 e1 e3 e6 e8 e9 e10
    cases plain' with
    | true =>
      have HP5 := Lib.hid (fun W (k : RE W p E f v N.length) => k.cell7 (!wideS []) _ rfl)
      go_wp2_with fail
      refine HW.out.mono ?_
      rintro e w5 ⟨rfl, q, hq⟩
      have hb5 : Below w4.heap.size w4 w5 := by rw [hq]; exact drewN_below w4 q
      have h5 := H4.out.below hb5
      have e75 : w5.cell? ⟨p, 7, none⟩ = some (.bool true) := by rw [hq]; exact e7
      have f75 : w5.frozen? ⟨p, 7, none⟩ = false := by rw [hq]; exact f4
      have HZ6 := Lib.hid (HP5.out _ h5)
      obtain ⟨w6, hw6⟩ : ∃ w6, w6 = w5.setCell ⟨p, 7, none⟩ (.bool (!wideS [])) := ⟨_, rfl⟩
      rw [← hw6] at HZ6
      have HA := Lib.hid (add_re p E f v N.length 0 0 0 (.slice none 0 0) false w6 ⟨none, 0, 0, rfl⟩ HZ6.out.1 (by omega))
      have M6 := Lib.hid (Mp.trans (Mp.below M4.out hb5) HZ6.out.2)
      have HW6 := Lib.hid hw6
      clear h5 hb5 hq hw6 e7 f4
      go_wp2_with fail
      rw [← HW6.out]
      refine HA.out.mono ?_
      rintro e w7 ⟨v', n, rfl, h7, m7⟩
      have H7 := Lib.hid h7; have M7 := Lib.hid m7
      clear h7 m7
      go_wp2
      go_ret
      rw [HRR.out]
      exact ⟨n, v', rfl, H7.out.more (by omega), (Mvd.box M6.out).trans M7.out⟩
    | false =>
      have HZ6 := Lib.hid (H4.out.cell7 false _ rfl)
      obtain ⟨w6, hw6⟩ : ∃ w6, w6 = w4.setCell ⟨p, 7, none⟩ (.bool false) := ⟨_, rfl⟩
      rw [← hw6] at HZ6
      have HA := Lib.hid (add_re p E f v N.length 0 0 0 (.slice none 0 0) false w6 ⟨none, 0, 0, rfl⟩ HZ6.out.1 (by omega))
      have M6 := Lib.hid (Mp.trans M4.out HZ6.out.2)
      have HW6 := Lib.hid hw6
      clear hw6
      go_wp2_with fail
      rw [← HW6.out]
      refine HA.out.mono ?_
      rintro e w7 ⟨v', n, rfl, h7, m7⟩
      have H7 := Lib.hid h7; have M7 := Lib.hid m7
      clear h7 m7
      go_wp2
      go_ret
      rw [HRR.out]
      exact ⟨n, v', rfl, H7.out.more (by omega), (Mvd.box M6.out).trans M7.out⟩
  | ok r =>
    obtain ⟨g, l'⟩ := r
    obtain ⟨A, k, rfl, hog, h4, m4⟩ := ho
    obtain ⟨A', k', e', hrd, hgk, hgm⟩ := own_rdg hog
    injection e' with q1 _ q3; subst q1; subst q3
    have HG := Lib.hid hog
    have H4 := Lib.hid h4; have M4 := Lib.hid (Mp.trans MZ.out m4)
    have hrr := HR.out
    simp only at hrr
    have HRR := Lib.hid hrr
    have HLT := Lib.hid (HSH.out g l' rfl)
    have HBG := Lib.hid (show p + 1 ≤ wz.heap.size from HZ.out.lt)
    have HW := Lib.hid (wide_any A k g w4 hrd)
    clear h4 m4 hrr HR hog hrd
    obtain ⟨top', s', size', plain', bad', hb4, e0, e1, e2, e3, e6, e7, e8, e9, e10⟩ := H4.out.cells
    have f4 := free_blk hb4 7
    clear hb4 e0 e1 e2 e3 e6 e8 e9 e10
    cases plain' with
    | true =>
      go_wp2_with fail
      refine HW.out.mono ?_
      rintro e w5 ⟨rfl, q, hq⟩
      have hb5 : Below w4.heap.size w4 w5 := by rw [hq]; exact drewN_below w4 q
      have h5 := H4.out.below hb5
      have hg5 := own_mv (S := fun _ => False) HG.out (Mv.of_below hb5 _) fun _ _ f => f
      have e75 : w5.cell? ⟨p, 7, none⟩ = some (.bool true) := by rw [hq]; exact e7
      have f75 : w5.frozen? ⟨p, 7, none⟩ = false := by rw [hq]; exact f4
      have hz6 := h5.cell7 (!wideS g) _ rfl
      obtain ⟨w6, hw6⟩ : ∃ w6, w6 = w5.setCell ⟨p, 7, none⟩ (.bool (!wideS g)) := ⟨_, rfl⟩
      rw [← hw6] at hz6
      have hg6 := own_mv hg5 hz6.2 fun k hk e => by have := (hg5.lt k hk).1; have := HBG.out; omega
      have HA := Lib.hid (add_rp p E l' d v us N ⟨0, 0, 0, g, false⟩ (.slice A g.length k) w6 hz6.1 (hg6.lower HBG.out) (by omega))
      have M6 := Lib.hid (Mp.trans (Mp.below M4.out hb5) hz6.2)
      have HW6 := Lib.hid hw6
      clear h5 hb5 hq hw6 e7 f4 hg5 hg6 hz6
      go_wp2_with fail
      rw [← HW6.out]
      refine HA.out.mono ?_
      rintro e w7 ⟨v', rfl, h7, m7⟩
      have H7 := Lib.hid h7; have M7 := Lib.hid m7
      clear h7 m7
      go_wp2
      go_ret
      rw [HRR.out]
      exact ⟨N.length, v', _, [⟨0, 0, 0, g, false⟩], rfl, H7.out, ⟨_, get_last N _, rfl, rfl, rfl⟩, by have := HLT.out; rw [List.length_append]; simp only [List.length_cons, List.length_nil]; omega, (Mvd.box M6.out).trans M7.out⟩
    | false =>
      have hz6 := H4.out.cell7 false _ rfl
      obtain ⟨w6, hw6⟩ : ∃ w6, w6 = w4.setCell ⟨p, 7, none⟩ (.bool false) := ⟨_, rfl⟩
      rw [← hw6] at hz6
      have hg6 := own_mv HG.out hz6.2 fun k hk e => by have := (HG.out.lt k hk).1; have := HBG.out; omega
      have HA := Lib.hid (add_rp p E l' d v us N ⟨0, 0, 0, g, false⟩ (.slice A g.length k) w6 hz6.1 (hg6.lower HBG.out) (by omega))
      have M6 := Lib.hid (Mp.trans M4.out hz6.2)
      have HW6 := Lib.hid hw6
      clear hw6 hg6 hz6
      go_wp2_with fail
      rw [← HW6.out]
      refine HA.out.mono ?_
      rintro e w7 ⟨v', rfl, h7, m7⟩
      have H7 := Lib.hid h7; have M7 := Lib.hid m7
      clear h7 m7
      go_wp2
      go_ret
      rw [HRR.out]
      exact ⟨N.length, v', _, [⟨0, 0, 0, g, false⟩], rfl, H7.out, ⟨_, get_last N _, rfl, rfl, rfl⟩, by have := HLT.out; rw [List.length_append]; simp only [List.length_cons, List.length_nil]; omega, (Mvd.box M6.out).trans M7.out⟩
/-- What a group is, at some depth. -/
def GCr (grp : List Pc → Rs Re) (d M : Nat) : Prop := ∀ (p : Nat) (E : Env) (l : List Pc) (v : Value) (us : List Value) (N : List Nd) (w : World), RP w p E l d v us N → nowP l = 40 → N.length + 4 * l.length ≤ 1100 →
  Calls Tryz.prog 112 #[.pointer (some ⟨p, 0, none⟩)] w (OutN p E d v N (N.length + 4 * l.length - 2) M w (grp l))
theorem atom_is (p : Nat) (E : Env) (l : List Pc) (d : Nat) (v : Value) (us : List Value) (N : List Nd) (w : World) (h : RP w p E l d v us N) (grp : List Pc → Rs Re) (M : Nat) (hG : GCr grp d M) (hK : N.length + 4 * l.length ≤ 1100) (hM : 1102 ≤ M) : Calls Tryz.prog 112 #[.pointer (some ⟨p, 0, none⟩)] w (OutN p E d v N (N.length + 4 * l.length - 2) M w (atomP grp l)) := by
  by_cases h40 : nowP l = 40
  · have hr : atomP grp l = grp l := by unfold atomP; rw [if_pos h40]
    rw [hr]; exact hG p E l v us N w h h40 hK
  by_cases h91 : nowP l = 91
  · exact atom_class p E l d v us N w h grp M hK hM h91
  by_cases h92 : nowP l = 92
  · exact atom_esc p E l d v us N w h grp M hK hM h92
  by_cases h46 : nowP l = 46
  · exact atom_dot p E l d v us N w h grp M hK hM h46
  by_cases h0 : nowP l < 0
  · exact atom_bad p E l d v us N w h grp M hK hM ⟨h40, h91, h92, h46⟩ (.inl h0)
  cases hs : specialP (nowP l) with
  | true => exact atom_bad p E l d v us N w h grp M hK hM ⟨h40, h91, h92, h46⟩ (.inr hs)
  | false => exact atom_plain p E l d v us N w h grp M hK hM (by omega) hs
end
end
section
set_option linter.unusedVariables false
set_option linter.unusedSimpArgs false
open Go.RowKit

structure BrR (w wr : World) (p : Nat) (E : Env) (d : Nat) (v : Value) (N : List Nd) (grp : List Pc → Rs Re) (n0 : Nat) (RES : Rs Re) (acc : Re) (l : List Pc) (n : Nat) (v' : Value) (us' : List Value) (N2 : List Nd) : Prop where
  rp : RP wr p E l d v' us' (N ++ N2)
  rep : Rep (N ++ N2) n acc
  few : (N ++ N2).length + 4 * l.length ≤ n0
  mvd : Mvd p v v' w wr
  res : RES = branchP grp l.length acc l
def BrRel (w : World) (p : Nat) (E : Env) (d : Nat) (v : Value) (N : List Nd) (grp : List Pc → Rs Re) (n0 M : Nat) (RES : Rs Re) (s3 : Value) (wr : World) : Prop :=
  (∃ acc l n v' us' N2, s3 = .int .i64 (n : Nat) ∧ BrR w wr p E d v N grp n0 RES acc l n v' us' N2) ∨ (∃ f n v', s3 = .int .i64 ((n : Nat) : Int) ∧ RE wr p E f v' M ∧ Mvd p v v' w wr ∧ RES = .error f)
theorem Mvd.p {p : Nat} {v v' : Value} {w w1 w2 : World} (h : Mvd p v v' w w1) (m : Mv (fun k => k = p) w1 w2) : Mvd p v v' w w2 := h.trans (Mvd.box m)
theorem Rep.one_up {N : List Nd} {k a : Nat} {t : Re} (h : Rep N a t) : Rep N a t ∧ a < N.length := ⟨h, h.lt⟩
theorem rep_star {N : List Nd} {a : Nat} {t : Re} (h : Rep N a t) : Rep (N ++ [⟨3, a, 0, [], false⟩]) N.length (.star t) := ⟨_, get_last N _, rfl, h.lt, h.more _⟩
theorem rep_plus {N : List Nd} {a : Nat} {t : Re} (h : Rep N a t) : Rep (N ++ [⟨4, a, 0, [], false⟩]) N.length (.plus t) := ⟨_, get_last N _, rfl, h.lt, h.more _⟩
theorem rep_may {N : List Nd} {a : Nat} {t : Re} (h : Rep N a t) : Rep (N ++ [⟨5, a, 0, [], false⟩]) N.length (.may t) := ⟨_, get_last N _, rfl, h.lt, h.more _⟩
theorem rep_cat {N : List Nd} {a b : Nat} {x y : Re} (h : Rep N a x) (k : Rep N b y) : Rep (N ++ [⟨1, a, b, [], false⟩]) N.length (.cat x y) := ⟨_, get_last N _, rfl, h.lt, k.lt, h.more _, k.more _⟩
theorem rep_alt {N : List Nd} {a b : Nat} {x y : Re} (h : Rep N a x) (k : Rep N b y) : Rep (N ++ [⟨2, a, b, [], false⟩]) N.length (.alt x y) := ⟨_, get_last N _, rfl, h.lt, k.lt, h.more _, k.more _⟩
theorem nowR_ne {l : List Pc} {c : Int} (h : nowP l ≠ c) (hc : 0 ≤ c) : (nowR l == c) = false := by
  rw [beq_eq_false_iff_ne]; unfold nowR; split
  · omega
  · split
    · omega
    · exact h
theorem nowR_end {l : List Pc} (h : nowP l ≠ -1) : nowR l ≠ -2 := by
  unfold nowR; rw [if_neg h]; split
  · decide
  · assumption
section
set_option maxHeartbeats 6400000
set_option maxRecDepth 100000
theorem branch_is (p : Nat) (E : Env) (l : List Pc) (d : Nat) (v : Value) (us : List Value) (N : List Nd) (w : World) (h : RP w p E l d v us N) (grp : List Pc → Rs Re) (M : Nat) (hG : GCr grp d M) (hk : GrpOk grp) (hK : N.length + 4 * l.length ≤ 1099) (hM : 1102 ≤ M) (hM2 : M ≤ 2000) :
    Calls Tryz.prog 102 #[.pointer (some ⟨p, 0, none⟩)] w (OutN p E d v N (N.length + 4 * l.length + 1) (M + 1) w (branchP grp l.length .none l)) := by
  obtain ⟨RES, hRES⟩ : ∃ RES, RES = branchP grp l.length .none l := ⟨_, rfl⟩
  rw [← hRES]
  obtain ⟨n0, hn0⟩ : ∃ n0, n0 = N.length + 4 * l.length + 1 := ⟨_, rfl⟩
  rw [← hn0]
  have HA := Lib.hid (add_rp p E l d v us N ⟨6, 0, 0, [], false⟩ (.slice none 0 0) w h (own_nil _ _) (by omega))
  have HG := Lib.hid hG; have HK := Lib.hid hk; have HR := Lib.hid hRES
  have hn1100 : n0 ≤ 1100 := by omega
  have HN0 := Lib.hid hn0
  clear h hG hk hRES hn0 hK
  go_enter Tryz.func102, Tryz.ntmps102
  go_wp2_with fail
  refine HA.out.mono ?_
  rintro e w1 ⟨v1, rfl, h1, m1⟩
  have HST := Lib.hid (show BrR w w1 p E d v N grp n0 RES .none l N.length v1 (us ++ [.slice none 0 0]) [⟨6, 0, 0, [], false⟩] from ⟨h1, ⟨_, get_last N _, rfl⟩, by have := HN0.out; rw [List.length_append]; simp only [List.length_cons, List.length_nil]; omega, m1, HR.out⟩)
  clear h1 m1 HA
  go_wp2_with fail
  go_loopw [3] (fun s3 wr => Aside (BrRel w p E d v N grp n0 (M + 1) RES s3 wr)) (fun _ wr => clN E.pl.length p wr)
  case atStart => exact .inl ⟨_, _, _, _, _, _, rfl, HST.out⟩
  case round =>
    rcases hrel with ⟨acc, l2, n, v', us', N2, rfl, hb⟩ | ⟨f, n, v', rfl, hre, hmv, hres⟩
    · have HRP := Lib.hid hb.rp; have HREP := Lib.hid hb.rep; have hfew := hb.few; have HMV := Lib.hid hb.mvd; have HRES := Lib.hid hb.res
      have HCL := Lib.hid hb.rp.clN
      have HOK := Lib.hid hb.rp.ok
      clear hb
      by_cases hstop : stopP (nowP l2) = true
      · have hrr := HRES.out
        rw [branch_step HK.out acc HOK.out, if_pos hstop] at hrr
        have HRR := Lib.hid hrr
        clear hrr
        unfold stopP at hstop
        simp only [Bool.or_eq_true, beq_iff_eq] at hstop
        rcases hstop with (h124 | h41) | hend
        · have hnr : nowR l2 = 124 := nowR_eq h124 (by decide)
          have q1 : ((124 : Int) != -2) = true := by decide
          have HN1 := Lib.hid (now_rp p E l2 d v' us' (N ++ N2) _ HRP.out)
          go_wp2_with fail
          refine HN1.out.mono ?_
          rintro e wn1 ⟨rfl, hn1, mn1⟩
          have HH1 := Lib.hid hn1; have MM1 := Lib.hid (HMV.out.p mn1)
          clear hn1 mn1 HN1
          rw [hnr]
          have HN2 := Lib.hid (now_rp p E l2 d v' us' (N ++ N2) _ HH1.out)
          go_wp2_with fail
          refine HN2.out.mono ?_
          rintro e wn2 ⟨rfl, hn2, mn2⟩
          have HH2 := Lib.hid hn2; have MM2 := Lib.hid (MM1.out.p mn2)
          clear hn2 mn2 HN2
          rw [hnr]
          go_wp2
          go_ret
          rw [HRR.out]
          exact ⟨n, v', us', N2, rfl, HH2.out, HREP.out, hfew, MM2.out⟩
        · have hnr : nowR l2 = 41 := nowR_eq h41 (by decide)
          have HN1 := Lib.hid (now_rp p E l2 d v' us' (N ++ N2) _ HRP.out)
          go_wp2_with fail
          refine HN1.out.mono ?_
          rintro e wn1 ⟨rfl, hn1, mn1⟩
          have HH1 := Lib.hid hn1; have MM1 := Lib.hid (HMV.out.p mn1)
          clear hn1 mn1 HN1
          rw [hnr]
          have HN2 := Lib.hid (now_rp p E l2 d v' us' (N ++ N2) _ HH1.out)
          go_wp2_with fail
          refine HN2.out.mono ?_
          rintro e wn2 ⟨rfl, hn2, mn2⟩
          have HH2 := Lib.hid hn2; have MM2 := Lib.hid (MM1.out.p mn2)
          clear hn2 mn2 HN2
          rw [hnr]
          have HN3 := Lib.hid (now_rp p E l2 d v' us' (N ++ N2) _ HH2.out)
          go_wp2_with fail
          refine HN3.out.mono ?_
          rintro e wn3 ⟨rfl, hn3, mn3⟩
          have HH3 := Lib.hid hn3; have MM3 := Lib.hid (MM2.out.p mn3)
          clear hn3 mn3 HN3
          rw [hnr]
          go_wp2
          go_ret
          rw [HRR.out]
          exact ⟨n, v', us', N2, rfl, HH3.out, HREP.out, hfew, MM3.out⟩
        · have hnr : nowR l2 = -2 := by unfold nowR; rw [if_pos hend]
          have HN1 := Lib.hid (now_rp p E l2 d v' us' (N ++ N2) _ HRP.out)
          go_wp2_with fail
          refine HN1.out.mono ?_
          rintro e wn1 ⟨rfl, hn1, mn1⟩
          have HH1 := Lib.hid hn1; have MM1 := Lib.hid (HMV.out.p mn1)
          clear hn1 mn1 HN1
          rw [hnr]
          go_wp2
          go_ret
          rw [HRR.out]
          exact ⟨n, v', us', N2, rfl, HH1.out, HREP.out, hfew, MM1.out⟩
      · have hrr := HRES.out
        rw [branch_step HK.out acc HOK.out, if_neg hstop] at hrr
        have hstop' : stopP (nowP l2) = false := by simpa using hstop
        unfold stopP at hstop'
        simp only [Bool.or_eq_false_iff, beq_eq_false_iff_ne] at hstop'
        obtain ⟨⟨s1, s2⟩, s3⟩ := hstop'
        have q1 : (nowR l2 == -2) = false := by rw [beq_eq_false_iff_ne]; exact nowR_end s3
        have q1' : (nowR l2 != -2) = true := by rw [bne_iff_ne]; exact nowR_end s3
        have q2 := nowR_ne s1 (by decide)
        have q2' : (nowR l2 != 124) = true := by rw [bne_iff_ne]; rw [beq_eq_false_iff_ne] at q2; exact q2
        have q3 := nowR_ne s2 (by decide)
        have q3' : (nowR l2 != 41) = true := by rw [bne_iff_ne]; rw [beq_eq_false_iff_ne] at q3; exact q3
        have hps := fun a l1 e => pieceP_shr HK.out HOK.out (r := a) (l1 := l1) e
        have HAT := Lib.hid (fun W (k : RP W p E l2 d v' us' (N ++ N2)) => atom_is p E l2 d v' us' (N ++ N2) W k grp M HG.out (by omega) hM)
        obtain ⟨PR, hpr⟩ : ∃ PR, PR = pieceP grp l2 := ⟨_, rfl⟩
        rw [← hpr] at hrr hps
        unfold pieceP at hpr
        generalize atomP grp l2 = R at HAT hpr
        have HPR := Lib.hid hpr; have HRR := Lib.hid hrr; have HPS := Lib.hid hps
        clear hpr hrr hps hstop s1 s2 s3
        obtain ⟨xx, hxx⟩ : ∃ xx, xx = nowR l2 := ⟨_, rfl⟩
        rw [← hxx] at q1 q2 q3 q1' q2' q3'
        have HXX := Lib.hid hxx; clear hxx
        have HN1 := Lib.hid (now_rp p E l2 d v' us' (N ++ N2) _ HRP.out)
        go_wp2_with fail
        refine HN1.out.mono ?_
        rintro e wn1 ⟨rfl, hn1, mn1⟩
        have HH1 := Lib.hid hn1; have MM1 := Lib.hid (HMV.out.p mn1)
        clear hn1 mn1 HN1
        rw [← HXX.out]
        have HN2 := Lib.hid (now_rp p E l2 d v' us' (N ++ N2) _ HH1.out)
        go_wp2_with fail
        refine HN2.out.mono ?_
        rintro e wn2 ⟨rfl, hn2, mn2⟩
        have HH2 := Lib.hid hn2; have MM2 := Lib.hid (MM1.out.p mn2)
        clear hn2 mn2 HN2
        rw [← HXX.out]
        have HN3 := Lib.hid (now_rp p E l2 d v' us' (N ++ N2) _ HH2.out)
        go_wp2_with fail
        refine HN3.out.mono ?_
        rintro e wn3 ⟨rfl, hn3, mn3⟩
        have HH3 := Lib.hid hn3; have MM3 := Lib.hid (MM2.out.p mn3)
        clear hn3 mn3 HN3
        rw [← HXX.out]
        have HATT := Lib.hid (HAT.out _ HH3.out)
        clear HAT
        go_wp2_with fail
        refine HATT.out.mono ?_
        intro e w4 ho
        clear q1 q2 q3 q1' q2' q3'
        cases R with
        | error f =>
          obtain ⟨na, v4, rfl, h4, m4⟩ := ho
          have hp2 := HPR.out
          simp only at hp2
          have hr2 := HRR.out
          rw [hp2] at hr2
          simp only at hr2
          have HR2 := Lib.hid hr2
          have M4 := Lib.hid (MM3.out.trans m4)
          have HNE := Lib.hid (now_re p E f v4 M w4 h4)
          clear h4 m4 hp2 hr2 HRR HPR HPS
          go_wp2_with fail
          refine HNE.out.mono ?_
          rintro e w5 ⟨rfl, h5, m5⟩
          have HA := Lib.hid (add_re p E f v4 M 1 (n : Nat) (na : Nat) (.slice none 0 0) false w5 ⟨none, 0, 0, rfl⟩ h5 (by omega))
          have M5 := Lib.hid (M4.out.p m5)
          clear h5 m5
          go_wp2_with fail
          refine HA.out.mono ?_
          rintro e w6 ⟨v6, n6, rfl, h6, m6⟩
          have H6 := Lib.hid h6; have M6 := Lib.hid (M5.out.trans m6)
          clear h6 m6
          go_wp2
          go_roundw
          case rel => exact .inr ⟨f, n6, v6, rfl, H6.out, M6.out, HR2.out⟩
          case measure => rw [H6.out.clN, HCL.out]; omega
        | ok r =>
          obtain ⟨t, l3⟩ := r
          obtain ⟨na, v4, us4, N4, rfl, h4, hrep4, hk4, m4⟩ := ho
          have hp2 := HPR.out
          simp only at hp2
          have H4 := Lib.hid h4; have M4 := Lib.hid (MM3.out.trans m4); have HREP4 := Lib.hid hrep4
          have HOK4 := Lib.hid h4.ok
          have HREPN := Lib.hid (HREP.out.more N4)
          clear h4 m4 hrep4
          by_cases h42 : nowP l3 = 42
          · have ht : timesP (nowP l3) t = some (.star t) := by rw [h42]; rfl
            rw [ht] at hp2
            simp only at hp2
            have hr2 := HRR.out
            rw [hp2] at hr2
            simp only at hr2
            have HR2 := Lib.hid hr2
            have HLT := Lib.hid (HPS.out _ _ hp2).lt
            have hnr : nowR l3 = 42 := nowR_eq h42 (by decide)
            have hn1 : nowP l3 ≠ -1 := by rw [h42]; decide
            have HN5 := Lib.hid (now_rp p E l3 d v4 us4 (N ++ N2 ++ N4) _ H4.out)
            rw [hnr] at HN5
            have HPASS := Lib.hid (fun W (k : RP W p E l3 d v4 us4 (N ++ N2 ++ N4)) => (k.pass hn1).2 _ rfl)
            clear ht hp2 hr2 hnr hn1 HRR HPR HPS
            go_wp2_with fail
            refine HN5.out.mono ?_
            rintro e w5 ⟨rfl, h5, m5⟩
            have M5 := Lib.hid (M4.out.p m5)
            obtain ⟨top5, s5, size5, plain5, bad5, hb5, k0, k1, k2, k3, k6, k7, k8, k9, k10⟩ := h5.cells
            have f5 := fun i => free_blk hb5 i
            have hwr : IntKind.i64.wrap ((E.at' l3 : Int) + 1) = (E.at' l3 : Int) + 1 := by have := h5.small; simp [IntKind.wrap, IntKind.bits, IntKind.signed]; omega
            obtain ⟨w6, hw6⟩ : ∃ w6, w6 = w5.setCell ⟨p, 7, none⟩ (.bool false) := ⟨_, rfl⟩
            obtain ⟨h6, m6⟩ := h5.cell7 false w6 hw6
            obtain ⟨w7, hw7⟩ : ∃ w7, w7 = w6.setCell ⟨p, 1, none⟩ (.int .i64 ((E.at' l3 : Int) + 1)) := ⟨_, rfl⟩
            have h7 := HPASS.out w6 h6
            rw [← hw7] at h7
            have M7 := Lib.hid ((M5.out.p m6).p h7.2)
            have HW7 := Lib.hid (show w7 = (w5.setCell ⟨p, 7, none⟩ (.bool false)).setCell ⟨p, 1, none⟩ (.int .i64 ((E.at' l3 : Int) + 1)) by rw [hw7, hw6])
            have HA := Lib.hid (add_rp p E l3.tail d v4 us4 (N ++ N2 ++ N4) ⟨3, na, 0, [], false⟩ (.slice none 0 0) w7 h7.1 (own_nil _ _) (by omega))
            obtain ⟨m, hm⟩ : ∃ m, m = (N ++ N2 ++ N4).length := ⟨_, rfl⟩
            rw [← hm] at HA
            have HM := Lib.hid hm
            clear h5 m5 hb5 k0 k2 k3 k6 k8 k9 k10 h6 m6 h7 hw6 hw7 hm
            go_wp2_with fail
            rw [← HW7.out]
            refine HA.out.mono ?_
            rintro e w8 ⟨v8, rfl, h8, m8⟩
            have M8 := Lib.hid (M7.out.trans m8)
            have HA2 := Lib.hid (add_rp p E l3.tail d v8 _ (N ++ N2 ++ N4 ++ [⟨3, na, 0, [], false⟩]) ⟨1, n, m, [], false⟩ (.slice none 0 0) w8 h8 (own_nil _ _) (by rw [List.length_append]; simp only [List.length_cons, List.length_nil]; omega))
            have hs8 := rep_star HREP4.out
            rw [← HM.out] at hs8
            have hr8 := rep_cat (HREPN.out.more [(⟨3, na, 0, [], false⟩ : Nd)]) hs8
            obtain ⟨m2, hm2⟩ : ∃ m2, m2 = (N ++ N2 ++ N4 ++ [(⟨3, na, 0, [], false⟩ : Nd)]).length := ⟨_, rfl⟩
            rw [← hm2] at HA2 hr8
            have HREP8 := Lib.hid hr8
            clear h8 m8 hs8 hr8 hm2
            go_wp2_with fail
            refine HA2.out.mono ?_
            rintro e w9 ⟨v9, rfl, h9, m9⟩
            have HC := Lib.hid (show BrR w w9 p E d v N grp n0 RES _ l3.tail _ v9 _ (N2 ++ (N4 ++ [⟨3, na, 0, [], false⟩] ++ [⟨1, n, m, [], false⟩])) from ⟨by simpa only [List.append_assoc] using h9, by have := HREP8.out; simpa only [List.append_assoc] using this, by have := HLT.out; have := HOK4.out.ne; simp at *; omega, M8.out.trans m9, HR2.out⟩)
            clear h9 m9
            go_wp2
            go_roundw
            case rel => exact .inl ⟨_, _, _, _, _, _, rfl, HC.out⟩
            case measure => rw [HC.out.rp.clN, HCL.out]; have := HLT.out; omega
          by_cases h43 : nowP l3 = 43
          · have ht : timesP (nowP l3) t = some (.plus t) := by rw [h43]; rfl
            rw [ht] at hp2
            simp only at hp2
            have hr2 := HRR.out
            rw [hp2] at hr2
            simp only at hr2
            have HR2 := Lib.hid hr2
            have HLT := Lib.hid (HPS.out _ _ hp2).lt
            have hnr : nowR l3 = 43 := nowR_eq h43 (by decide)
            have hn1 : nowP l3 ≠ -1 := by rw [h43]; decide
            have HN5 := Lib.hid (now_rp p E l3 d v4 us4 (N ++ N2 ++ N4) _ H4.out)
            rw [hnr] at HN5
            have HPASS := Lib.hid (fun W (k : RP W p E l3 d v4 us4 (N ++ N2 ++ N4)) => (k.pass hn1).2 _ rfl)
            clear ht hp2 hr2 hnr hn1 HRR HPR HPS
            go_wp2_with fail
            refine HN5.out.mono ?_
            rintro e w5 ⟨rfl, h5, m5⟩
            have M5 := Lib.hid (M4.out.p m5)
            obtain ⟨top5, s5, size5, plain5, bad5, hb5, k0, k1, k2, k3, k6, k7, k8, k9, k10⟩ := h5.cells
            have f5 := fun i => free_blk hb5 i
            have hwr : IntKind.i64.wrap ((E.at' l3 : Int) + 1) = (E.at' l3 : Int) + 1 := by have := h5.small; simp [IntKind.wrap, IntKind.bits, IntKind.signed]; omega
            obtain ⟨w6, hw6⟩ : ∃ w6, w6 = w5.setCell ⟨p, 7, none⟩ (.bool false) := ⟨_, rfl⟩
            obtain ⟨h6, m6⟩ := h5.cell7 false w6 hw6
            obtain ⟨w7, hw7⟩ : ∃ w7, w7 = w6.setCell ⟨p, 1, none⟩ (.int .i64 ((E.at' l3 : Int) + 1)) := ⟨_, rfl⟩
            have h7 := HPASS.out w6 h6
            rw [← hw7] at h7
            have M7 := Lib.hid ((M5.out.p m6).p h7.2)
            have HW7 := Lib.hid (show w7 = (w5.setCell ⟨p, 7, none⟩ (.bool false)).setCell ⟨p, 1, none⟩ (.int .i64 ((E.at' l3 : Int) + 1)) by rw [hw7, hw6])
            have HA := Lib.hid (add_rp p E l3.tail d v4 us4 (N ++ N2 ++ N4) ⟨4, na, 0, [], false⟩ (.slice none 0 0) w7 h7.1 (own_nil _ _) (by omega))
            obtain ⟨m, hm⟩ : ∃ m, m = (N ++ N2 ++ N4).length := ⟨_, rfl⟩
            rw [← hm] at HA
            have HM := Lib.hid hm
            clear h5 m5 hb5 k0 k2 k3 k6 k8 k9 k10 h6 m6 h7 hw6 hw7 hm
            go_wp2_with fail
            rw [← HW7.out]
            refine HA.out.mono ?_
            rintro e w8 ⟨v8, rfl, h8, m8⟩
            have M8 := Lib.hid (M7.out.trans m8)
            have HA2 := Lib.hid (add_rp p E l3.tail d v8 _ (N ++ N2 ++ N4 ++ [⟨4, na, 0, [], false⟩]) ⟨1, n, m, [], false⟩ (.slice none 0 0) w8 h8 (own_nil _ _) (by rw [List.length_append]; simp only [List.length_cons, List.length_nil]; omega))
            have hs8 := rep_plus HREP4.out
            rw [← HM.out] at hs8
            have hr8 := rep_cat (HREPN.out.more [(⟨4, na, 0, [], false⟩ : Nd)]) hs8
            obtain ⟨m2, hm2⟩ : ∃ m2, m2 = (N ++ N2 ++ N4 ++ [(⟨4, na, 0, [], false⟩ : Nd)]).length := ⟨_, rfl⟩
            rw [← hm2] at HA2 hr8
            have HREP8 := Lib.hid hr8
            clear h8 m8 hs8 hr8 hm2
            go_wp2_with fail
            refine HA2.out.mono ?_
            rintro e w9 ⟨v9, rfl, h9, m9⟩
            have HC := Lib.hid (show BrR w w9 p E d v N grp n0 RES _ l3.tail _ v9 _ (N2 ++ (N4 ++ [⟨4, na, 0, [], false⟩] ++ [⟨1, n, m, [], false⟩])) from ⟨by simpa only [List.append_assoc] using h9, by have := HREP8.out; simpa only [List.append_assoc] using this, by have := HLT.out; have := HOK4.out.ne; simp at *; omega, M8.out.trans m9, HR2.out⟩)
            clear h9 m9
            go_wp2
            go_roundw
            case rel => exact .inl ⟨_, _, _, _, _, _, rfl, HC.out⟩
            case measure => rw [HC.out.rp.clN, HCL.out]; have := HLT.out; omega
          by_cases h63 : nowP l3 = 63
          · have ht : timesP (nowP l3) t = some (.may t) := by rw [h63]; rfl
            rw [ht] at hp2
            simp only at hp2
            have hr2 := HRR.out
            rw [hp2] at hr2
            simp only at hr2
            have HR2 := Lib.hid hr2
            have HLT := Lib.hid (HPS.out _ _ hp2).lt
            have hnr : nowR l3 = 63 := nowR_eq h63 (by decide)
            have hn1 : nowP l3 ≠ -1 := by rw [h63]; decide
            have HN5 := Lib.hid (now_rp p E l3 d v4 us4 (N ++ N2 ++ N4) _ H4.out)
            rw [hnr] at HN5
            have HPASS := Lib.hid (fun W (k : RP W p E l3 d v4 us4 (N ++ N2 ++ N4)) => (k.pass hn1).2 _ rfl)
            clear ht hp2 hr2 hnr hn1 HRR HPR HPS
            go_wp2_with fail
            refine HN5.out.mono ?_
            rintro e w5 ⟨rfl, h5, m5⟩
            have M5 := Lib.hid (M4.out.p m5)
            obtain ⟨top5, s5, size5, plain5, bad5, hb5, k0, k1, k2, k3, k6, k7, k8, k9, k10⟩ := h5.cells
            have f5 := fun i => free_blk hb5 i
            have hwr : IntKind.i64.wrap ((E.at' l3 : Int) + 1) = (E.at' l3 : Int) + 1 := by have := h5.small; simp [IntKind.wrap, IntKind.bits, IntKind.signed]; omega
            obtain ⟨w6, hw6⟩ : ∃ w6, w6 = w5.setCell ⟨p, 7, none⟩ (.bool false) := ⟨_, rfl⟩
            obtain ⟨h6, m6⟩ := h5.cell7 false w6 hw6
            obtain ⟨w7, hw7⟩ : ∃ w7, w7 = w6.setCell ⟨p, 1, none⟩ (.int .i64 ((E.at' l3 : Int) + 1)) := ⟨_, rfl⟩
            have h7 := HPASS.out w6 h6
            rw [← hw7] at h7
            have M7 := Lib.hid ((M5.out.p m6).p h7.2)
            have HW7 := Lib.hid (show w7 = (w5.setCell ⟨p, 7, none⟩ (.bool false)).setCell ⟨p, 1, none⟩ (.int .i64 ((E.at' l3 : Int) + 1)) by rw [hw7, hw6])
            have HA := Lib.hid (add_rp p E l3.tail d v4 us4 (N ++ N2 ++ N4) ⟨5, na, 0, [], false⟩ (.slice none 0 0) w7 h7.1 (own_nil _ _) (by omega))
            obtain ⟨m, hm⟩ : ∃ m, m = (N ++ N2 ++ N4).length := ⟨_, rfl⟩
            rw [← hm] at HA
            have HM := Lib.hid hm
            clear h5 m5 hb5 k0 k2 k3 k6 k8 k9 k10 h6 m6 h7 hw6 hw7 hm
            go_wp2_with fail
            rw [← HW7.out]
            refine HA.out.mono ?_
            rintro e w8 ⟨v8, rfl, h8, m8⟩
            have M8 := Lib.hid (M7.out.trans m8)
            have HA2 := Lib.hid (add_rp p E l3.tail d v8 _ (N ++ N2 ++ N4 ++ [⟨5, na, 0, [], false⟩]) ⟨1, n, m, [], false⟩ (.slice none 0 0) w8 h8 (own_nil _ _) (by rw [List.length_append]; simp only [List.length_cons, List.length_nil]; omega))
            have hs8 := rep_may HREP4.out
            rw [← HM.out] at hs8
            have hr8 := rep_cat (HREPN.out.more [(⟨5, na, 0, [], false⟩ : Nd)]) hs8
            obtain ⟨m2, hm2⟩ : ∃ m2, m2 = (N ++ N2 ++ N4 ++ [(⟨5, na, 0, [], false⟩ : Nd)]).length := ⟨_, rfl⟩
            rw [← hm2] at HA2 hr8
            have HREP8 := Lib.hid hr8
            clear h8 m8 hs8 hr8 hm2
            go_wp2_with fail
            refine HA2.out.mono ?_
            rintro e w9 ⟨v9, rfl, h9, m9⟩
            have HC := Lib.hid (show BrR w w9 p E d v N grp n0 RES _ l3.tail _ v9 _ (N2 ++ (N4 ++ [⟨5, na, 0, [], false⟩] ++ [⟨1, n, m, [], false⟩])) from ⟨by simpa only [List.append_assoc] using h9, by have := HREP8.out; simpa only [List.append_assoc] using this, by have := HLT.out; have := HOK4.out.ne; simp at *; omega, M8.out.trans m9, HR2.out⟩)
            clear h9 m9
            go_wp2
            go_roundw
            case rel => exact .inl ⟨_, _, _, _, _, _, rfl, HC.out⟩
            case measure => rw [HC.out.rp.clN, HCL.out]; have := HLT.out; omega
          have ht : timesP (nowP l3) t = none := by unfold timesP; rw [if_neg h42, if_neg h43, if_neg h63]
          rw [ht] at hp2
          simp only at hp2
          have hr2 := HRR.out
          rw [hp2] at hr2
          simp only at hr2
          have HR2 := Lib.hid hr2
          have HLT := Lib.hid (HPS.out _ _ hp2).lt
          have q1 := nowR_ne h42 (by decide)
          have q2 := nowR_ne h43 (by decide)
          have q3 := nowR_ne h63 (by decide)
          have HN5 := Lib.hid (now_rp p E l3 d v4 us4 (N ++ N2 ++ N4) _ H4.out)
          clear ht hp2 hr2 HRR HPR HPS h42 h43 h63
          generalize nowR l3 = x at *
          go_wp2_with fail
          refine HN5.out.mono ?_
          rintro e w5 ⟨rfl, h5, m5⟩
          have M5 := Lib.hid (M4.out.p m5)
          have HA2 := Lib.hid (add_rp p E l3 d v4 us4 (N ++ N2 ++ N4) ⟨1, n, na, [], false⟩ (.slice none 0 0) w5 h5 (own_nil _ _) (by omega))
          have hr8 := rep_cat HREPN.out HREP4.out
          obtain ⟨m2, hm2⟩ : ∃ m2, m2 = (N ++ N2 ++ N4).length := ⟨_, rfl⟩
          rw [← hm2] at HA2 hr8
          have HREP8 := Lib.hid hr8; have HM2 := Lib.hid hm2
          clear h5 m5 hr8 hm2
          go_wp2_with fail
          refine HA2.out.mono ?_
          rintro e w9 ⟨v9, rfl, h9, m9⟩
          have HC := Lib.hid (show BrR w w9 p E d v N grp n0 RES _ l3 _ v9 _ (N2 ++ (N4 ++ [⟨1, n, na, [], false⟩])) from ⟨by simpa only [List.append_assoc] using h9, by have := HREP8.out; simpa only [List.append_assoc] using this, by have := HLT.out; simp at *; omega, M5.out.trans m9, HR2.out⟩)
          clear h9 m9
          go_wp2
          go_roundw
          case rel => exact .inl ⟨_, _, _, _, _, _, rfl, HC.out⟩
          case measure => rw [HC.out.rp.clN, HCL.out]; have := HLT.out; omega
    · have HRE := Lib.hid hre; have HMV := Lib.hid hmv; have HR2 := Lib.hid hres
      have HNE := Lib.hid (now_re p E f v' (M + 1) wr hre)
      clear hre hmv hres
      go_wp2_with fail
      refine HNE.out.mono ?_
      rintro e w5 ⟨rfl, h5, m5⟩
      have H5 := Lib.hid h5; have M5 := Lib.hid (HMV.out.p m5)
      clear h5 m5
      go_wp2
      go_ret
      rw [HR2.out]
      exact ⟨n, v', rfl, H5.out, M5.out⟩
end
end
section
set_option linter.unusedVariables false
set_option linter.unusedSimpArgs false
open Go.RowKit

structure AlR (w wr : World) (p : Nat) (E : Env) (d : Nat) (v : Value) (N : List Nd) (grp : List Pc → Rs Re) (n0 : Nat) (RES : Rs Re) (acc : Re) (l : List Pc) (n : Nat) (v' : Value) (us' : List Value) (N2 : List Nd) : Prop where
  rp : RP wr p E l d v' us' (N ++ N2)
  rep : Rep (N ++ N2) n acc
  few : (N ++ N2).length + 4 * l.length ≤ n0
  mvd : Mvd p v v' w wr
  res : RES = altsP grp l.length acc l
def AlRel (w : World) (p : Nat) (E : Env) (d : Nat) (v : Value) (N : List Nd) (grp : List Pc → Rs Re) (n0 M : Nat) (RES : Rs Re) (s3 : Value) (wr : World) : Prop :=
  (∃ acc l n v' us' N2, s3 = .int .i64 (n : Nat) ∧ AlR w wr p E d v N grp n0 RES acc l n v' us' N2) ∨ (∃ f n v', s3 = .int .i64 ((n : Nat) : Int) ∧ RE wr p E f v' M ∧ Mvd p v v' w wr ∧ RES = .error f)
section
set_option maxHeartbeats 6400000
set_option maxRecDepth 100000
theorem alt_is (p : Nat) (E : Env) (l : List Pc) (d : Nat) (v : Value) (us : List Value) (N : List Nd) (w : World) (h : RP w p E l d v us N) (grp : List Pc → Rs Re) (M : Nat) (hG : GCr grp d M) (hk : GrpOk grp) (hK : N.length + 4 * l.length ≤ 1099) (hM : 1102 ≤ M) (hM2 : M ≤ 2000) :
    Calls Tryz.prog 84 #[.pointer (some ⟨p, 0, none⟩)] w (OutN p E d v N (N.length + 4 * l.length + 1) (M + 2) w (patP grp l)) := by
  obtain ⟨RES, hRES⟩ : ∃ RES, RES = patP grp l := ⟨_, rfl⟩
  rw [← hRES]
  unfold patP at hRES
  obtain ⟨n0, hn0⟩ : ∃ n0, n0 = N.length + 4 * l.length + 1 := ⟨_, rfl⟩
  have hB := branch_is p E l d v us N w h grp M hG hk hK hM hM2
  rw [← hn0] at hB ⊢
  have hn1100 : n0 ≤ 1100 := by omega
  generalize branchP grp l.length .none l = R at hB hRES
  have HB := Lib.hid hB; have HG := Lib.hid hG; have HK := Lib.hid hk; have HR := Lib.hid hRES
  clear h hG hk hRES hn0 hK hB
  go_enter Tryz.func84, Tryz.ntmps84
  go_wp2_with fail
  refine HB.out.mono ?_
  intro e w1 ho
  obtain ⟨s3, w1', rfl, HST⟩ : ∃ s3 w1', e = .returned s3 ∧ Hid (w1' = w1 ∧ AlRel w p E d v N grp n0 (M + 2) RES s3 w1) := by
    cases R with
    | error f =>
      obtain ⟨n, v', rfl, h1, m1⟩ := ho
      exact ⟨_, w1, rfl, Lib.hid ⟨rfl, .inr ⟨f, n, v', rfl, h1.more (by omega), m1, HR.out⟩⟩⟩
    | ok r =>
      obtain ⟨t, l1⟩ := r
      obtain ⟨n, v', us', N2, rfl, h1, hrep, hk1, m1⟩ := ho
      exact ⟨_, w1, rfl, Lib.hid ⟨rfl, .inl ⟨_, _, n, v', us', N2, rfl, h1, hrep, hk1, m1, HR.out⟩⟩⟩
  clear ho HB HR
  go_wp2_with fail
  go_loopw [3] (fun s3 wr => Aside (AlRel w p E d v N grp n0 (M + 2) RES s3 wr)) (fun _ wr => clN E.pl.length p wr)
  case atStart => exact HST.out.2
  case round =>
    rcases hrel with ⟨acc, l2, n, v', us', N2, rfl, hb⟩ | ⟨f, n, v', rfl, hre, hmv, hres⟩
    · have HRP := Lib.hid hb.rp; have HREP := Lib.hid hb.rep; have hfew := hb.few; have HMV := Lib.hid hb.mvd; have HRES := Lib.hid hb.res
      have HCL := Lib.hid hb.rp.clN
      have HOK := Lib.hid hb.rp.ok
      have HN1 := Lib.hid (now_rp p E l2 d v' us' (N ++ N2) wr hb.rp)
      have hrr := hb.res
      rw [alts_step HK.out acc HOK.out] at hrr
      clear hb
      by_cases h124 : nowP l2 = 124
      · rw [if_pos h124] at hrr
        have hnr : nowR l2 = 124 := nowR_eq h124 (by decide)
        rw [hnr] at HN1
        have hn1 : nowP l2 ≠ -1 := by rw [h124]; decide
        have hlt := (Shr.tail HOK.out hn1).lt
        have HOKT := Lib.hid (HOK.out.tail hn1)
        have HPASS := Lib.hid (fun W (k : RP W p E l2 d v' us' (N ++ N2)) => (k.pass hn1).2 _ rfl)
        have HBR := Lib.hid (fun W (k : RP W p E l2.tail d v' us' (N ++ N2)) => branch_is p E l2.tail d v' us' (N ++ N2) W k grp M HG.out HK.out (by omega) hM hM2)
        have hbl := fun b l1 (e : branchP grp l2.tail.length .none l2.tail = .ok (b, l1)) => (branchP_less HK.out _ _ _ HOKT.out e).1.len
        generalize branchP grp l2.tail.length .none l2.tail = R at HBR hrr hbl
        have HRR := Lib.hid hrr; have HBL := Lib.hid hbl
        clear hrr hnr hn1 h124 hbl
        go_wp2_with fail
        refine HN1.out.mono ?_
        rintro e w3 ⟨rfl, h3, m3⟩
        have M3 := Lib.hid (HMV.out.p m3)
        obtain ⟨top5, s5, size5, plain5, bad5, hb5, k0, k1, k2, k3, k6, k7, k8, k9, k10⟩ := h3.cells
        have f5 := fun i => free_blk hb5 i
        have hwr : IntKind.i64.wrap ((E.at' l2 : Int) + 1) = (E.at' l2 : Int) + 1 := by have := h3.small; simp [IntKind.wrap, IntKind.bits, IntKind.signed]; omega
        obtain ⟨w4, hw4⟩ : ∃ w4, w4 = w3.setCell ⟨p, 1, none⟩ (.int .i64 ((E.at' l2 : Int) + 1)) := ⟨_, rfl⟩
        have h4 := HPASS.out w3 h3
        rw [← hw4] at h4
        have M4 := Lib.hid (M3.out.p h4.2)
        have HBB := Lib.hid (HBR.out w4 h4.1)
        have HW4 := Lib.hid hw4
        clear h3 m3 hb5 k0 k2 k3 k6 k7 k8 k9 k10 h4 hw4 HPASS HBR
        go_wp2_with fail
        rw [← HW4.out]
        refine HBB.out.mono ?_
        intro e w5 ho
        cases R with
        | error f =>
          obtain ⟨nb, v5, rfl, h5, m5⟩ := ho
          have hr2 := HRR.out
          simp only at hr2
          have HR2 := Lib.hid hr2
          have HA := Lib.hid (add_re p E f v5 (M + 1) 2 (n : Nat) (nb : Nat) (.slice none 0 0) false w5 ⟨none, 0, 0, rfl⟩ h5 (by omega))
          have M5 := Lib.hid (M4.out.trans m5)
          clear h5 m5 hr2 HRR
          go_wp2_with fail
          refine HA.out.mono ?_
          rintro e w6 ⟨v6, n6, rfl, h6, m6⟩
          have H6 := Lib.hid h6; have M6 := Lib.hid (M5.out.trans m6)
          clear h6 m6
          go_wp2
          go_roundw
          case rel => exact .inr ⟨f, n6, v6, rfl, H6.out.more (by omega), M6.out, HR2.out⟩
          case measure => rw [H6.out.clN, HCL.out]; omega
        | ok r =>
          obtain ⟨t, l3⟩ := r
          obtain ⟨nb, v5, us5, N5, rfl, h5, hrep5, hk5, m5⟩ := ho
          have hr2 := HRR.out
          simp only at hr2
          have HR2 := Lib.hid hr2
          have HLB := Lib.hid (HBL.out _ _ rfl)
          have HA := Lib.hid (add_rp p E l3 d v5 us5 (N ++ N2 ++ N5) ⟨2, n, nb, [], false⟩ (.slice none 0 0) w5 h5 (own_nil _ _) (by omega))
          have M5 := Lib.hid (M4.out.trans m5)
          have hr8 := rep_alt (HREP.out.more N5) hrep5
          obtain ⟨m2, hm2⟩ : ∃ m2, m2 = (N ++ N2 ++ N5).length := ⟨_, rfl⟩
          rw [← hm2] at HA hr8
          have HREP8 := Lib.hid hr8; have HM2 := Lib.hid hm2
          clear h5 m5 hr8 hm2 hr2 HRR hrep5
          go_wp2_with fail
          refine HA.out.mono ?_
          rintro e w6 ⟨v6, rfl, h6, m6⟩
          have HC := Lib.hid (show AlR w w6 p E d v N grp n0 RES _ l3 _ v6 _ (N2 ++ (N5 ++ [⟨2, n, nb, [], false⟩])) from ⟨by simpa only [List.append_assoc] using h6, by have := HREP8.out; simpa only [List.append_assoc] using this, by have := HLB.out; simp at *; omega, M5.out.trans m6, HR2.out⟩)
          clear h6 m6
          go_wp2
          go_roundw
          case rel => exact .inl ⟨_, _, _, _, _, _, rfl, HC.out⟩
          case measure => rw [HC.out.rp.clN, HCL.out]; have := HLB.out; omega
      · rw [if_neg h124] at hrr
        have q1 := nowR_ne h124 (by decide)
        have HRR := Lib.hid hrr
        clear hrr h124
        generalize nowR l2 = x at *
        go_wp2_with fail
        refine HN1.out.mono ?_
        rintro e w3 ⟨rfl, h3, m3⟩
        have H3 := Lib.hid h3; have M3 := Lib.hid (HMV.out.p m3)
        clear h3 m3
        go_wp2
        go_ret
        rw [HRR.out]
        exact ⟨n, v', us', N2, rfl, H3.out, HREP.out, hfew, M3.out⟩
    · have HMV := Lib.hid hmv; have HR2 := Lib.hid hres
      have HNE := Lib.hid (now_re p E f v' (M + 2) wr hre)
      clear hre hmv hres
      go_wp2_with fail
      refine HNE.out.mono ?_
      rintro e w5 ⟨rfl, h5, m5⟩
      have H5 := Lib.hid h5; have M5 := Lib.hid (HMV.out.p m5)
      clear h5 m5
      go_wp2
      go_ret
      rw [HR2.out]
      exact ⟨n, v', rfl, H5.out, M5.out⟩
theorem group_20 (M : Nat) (hM : 1100 ≤ M) : GCr (grpP 0) 20 M := by
  intro p E l v us N w h h40 hK
  have hr : grpP 0 l = .error (atP l, 60) := rfl
  rw [hr]
  have hnr : nowR l = 40 := nowR_eq h40 (by decide)
  have HN := Lib.hid (now_rp p E l 20 v us N w h)
  rw [hnr] at HN
  clear h hr hnr h40
  go_enter Tryz.func112, Tryz.ntmps112
  go_wp2_with fail
  refine HN.out.mono ?_
  rintro e w1 ⟨rfl, h1, m1⟩
  obtain ⟨top, s, size, plain, bad, hb, c0, c1, c2, c3, c6, c7, c8, c9, c10⟩ := h1.cells
  have ff := fun i => free_blk hb i
  obtain ⟨w2, hw2⟩ : ∃ w2, w2 = w1.setCell ⟨p, 6, none⟩ (.int .i64 (wrap64 (size + 1))) := ⟨_, rfl⟩
  obtain ⟨h2, m2⟩ := h1.cell6 _ w2 hw2
  obtain ⟨w3, hw3⟩ : ∃ w3, w3 = w2.setCell ⟨p, 6, none⟩ (.int .i64 (wrap64 (wrap64 (size + 1) - 1))) := ⟨_, rfl⟩
  obtain ⟨h3, m3⟩ := h2.cell6 _ w3 hw3
  obtain ⟨w4, hw4⟩ : ∃ w4, w4 = w3.setCell ⟨p, 7, none⟩ (.bool false) := ⟨_, rfl⟩
  obtain ⟨h4, m4⟩ := h3.cell7 _ w4 hw4
  have HF := Lib.hid (fail_is p 60 E l 20 N.length v us N w4 h4 (by decide) (Nat.le_refl _))
  have M4 := Lib.hid (Mp.trans (Mp.trans (Mp.trans m1 m2) m3) m4)
  have HW4 := Lib.hid (show w4 = ((w1.setCell ⟨p, 6, none⟩ (.int .i64 (wrap64 (size + 1)))).setCell ⟨p, 6, none⟩ (.int .i64 (wrap64 (wrap64 (size + 1) - 1)))).setCell ⟨p, 7, none⟩ (.bool false) by rw [hw4, hw3, hw2])
  clear h1 m1 h2 m2 h3 m3 h4 m4 hw2 hw3 hw4 hb c0 c2 c3 c8
  go_wp2_with fail
  rw [← HW4.out]
  refine HF.out.mono ?_
  rintro e w5 ⟨rfl, h5, m5⟩
  have H5 := Lib.hid h5; have M5 := Lib.hid (Mp.trans M4.out m5)
  clear h5 m5
  go_wp2
  go_ret
  exact ⟨0, v, rfl, H5.out.more (by omega), Mvd.box M5.out⟩
theorem group_up (k d M : Nat) (hG : GCr (grpP k) (d + 1) M) (hd : d < 20) (hM : 1102 ≤ M) (hM2 : M ≤ 1990) : GCr (grpP (k + 1)) d (M + 2) := by
  intro p E l v us N w h h40 hK
  obtain ⟨RES, hRES⟩ : ∃ RES, RES = grpP (k + 1) l := ⟨_, rfl⟩
  rw [← hRES]
  unfold grpP at hRES
  have hnr : nowR l = 40 := nowR_eq h40 (by decide)
  have hn1 : nowP l ≠ -1 := by rw [h40]; decide
  have hlt := (Shr.tail h.ok hn1).lt
  have HN := Lib.hid (now_rp p E l d v us N w h)
  rw [hnr] at HN
  have HALT := Lib.hid (fun W (kk : RP W p E l.tail (d + 1) v us N) => alt_is p E l.tail (d + 1) v us N W kk (grpP k) M hG (grpP_ok k) (by omega) hM (by omega))
  generalize patP (grpP k) l.tail = R at HALT hRES
  have HR := Lib.hid hRES
  have q20 : ((d : Int) == 20) = false := by rw [beq_eq_false_iff_ne]; omega
  have hwd : IntKind.i64.wrap ((d : Int) + 1) = (d : Int) + 1 := by simp [IntKind.wrap, IntKind.bits, IntKind.signed]; omega
  have HPASS := Lib.hid (fun W (kk : RP W p E l (d + 1) v us N) => (kk.pass hn1).2 _ rfl)
  clear h hRES hnr hn1 h40 hG
  go_enter Tryz.func112, Tryz.ntmps112
  go_wp2_with fail
  refine HN.out.mono ?_
  rintro e w1 ⟨rfl, h1, m1⟩
  obtain ⟨top, s, size, plain, bad, hb, c0, c1, c2, c3, c6, c7, c8, c9, c10⟩ := h1.cells
  have ff := fun i => free_blk hb i
  have hwr : IntKind.i64.wrap ((E.at' l : Int) + 1) = (E.at' l : Int) + 1 := by have := h1.small; simp [IntKind.wrap, IntKind.bits, IntKind.signed]; omega
  obtain ⟨w2, hw2⟩ : ∃ w2, w2 = w1.setCell ⟨p, 6, none⟩ (.int .i64 (wrap64 (size + 1))) := ⟨_, rfl⟩
  obtain ⟨h2, m2⟩ := h1.cell6 _ w2 hw2
  obtain ⟨w3, hw3⟩ : ∃ w3, w3 = w2.setCell ⟨p, 6, none⟩ (.int .i64 (wrap64 (wrap64 (size + 1) - 1))) := ⟨_, rfl⟩
  obtain ⟨h3, m3⟩ := h2.cell6 _ w3 hw3
  obtain ⟨w4, hw4⟩ : ∃ w4, w4 = w3.setCell ⟨p, 7, none⟩ (.bool false) := ⟨_, rfl⟩
  obtain ⟨h4, m4⟩ := h3.cell7 _ w4 hw4
  obtain ⟨w5, hw5⟩ : ∃ w5, w5 = w4.setCell ⟨p, 10, none⟩ (.int .i64 ((d : Int) + 1)) := ⟨_, rfl⟩
  obtain ⟨h5, m5⟩ := h4.cell10 (d + 1) w5 (by rw [hw5]; congr 2)
  obtain ⟨w6, hw6⟩ : ∃ w6, w6 = w5.setCell ⟨p, 1, none⟩ (.int .i64 ((E.at' l : Int) + 1)) := ⟨_, rfl⟩
  have h6 := HPASS.out w5 h5
  rw [← hw6] at h6
  have HA := Lib.hid (HALT.out w6 h6.1)
  have M6 := Lib.hid (Mp.trans (Mp.trans (Mp.trans (Mp.trans (Mp.trans m1 m2) m3) m4) m5) h6.2)
  have HW6 := Lib.hid (show w6 = ((((w1.setCell ⟨p, 6, none⟩ (.int .i64 (wrap64 (size + 1)))).setCell ⟨p, 6, none⟩ (.int .i64 (wrap64 (wrap64 (size + 1) - 1)))).setCell ⟨p, 7, none⟩ (.bool false)).setCell ⟨p, 10, none⟩ (.int .i64 ((d : Int) + 1))).setCell ⟨p, 1, none⟩ (.int .i64 ((E.at' l : Int) + 1)) by rw [hw6, hw5, hw4, hw3, hw2])
  clear h1 m1 h2 m2 h3 m3 h4 m4 h5 m5 h6 hw2 hw3 hw4 hw5 hw6 hb c0 c2 c3 c8 HALT
  go_wp2_with fail
  rw [← HW6.out]
  refine HA.out.mono ?_
  intro e w7 ho
  clear c1 c6 c7 c9 c10 ff
  cases R with
  | error f =>
    obtain ⟨n, v7, rfl, h7, m7⟩ := ho
    have hr2 := HR.out
    simp only at hr2
    have HR2 := Lib.hid hr2
    have HNE := Lib.hid (now_re p E f v7 (M + 2) w7 h7)
    have M7 := Lib.hid ((Mvd.box (v := v) M6.out).trans m7)
    clear h7 m7 hr2 HR
    go_wp2_with fail
    refine HNE.out.mono ?_
    rintro e w8 ⟨rfl, h8, m8⟩
    have HF := Lib.hid (fail_err p 8 E f v7 (M + 2) w8 h8)
    have H8 := Lib.hid h8; have M8 := Lib.hid (M7.out.p m8)
    clear h8 m8
    go_wp2_with fail
    refine HF.out.mono ?_
    rintro e w9 ⟨rfl, rfl⟩
    go_wp2
    go_ret
    rw [HR2.out]
    exact ⟨0, v7, rfl, H8.out, M8.out⟩
  | ok r =>
    obtain ⟨t, l1⟩ := r
    obtain ⟨n, v7, us7, N7, rfl, h7, hrep, hk7, m7⟩ := ho
    have hr2 := HR.out
    simp only at hr2
    have HREP := Lib.hid hrep
    have M7 := Lib.hid ((Mvd.box (v := v) M6.out).trans m7)
    have HN8 := Lib.hid (now_rp p E l1 (d + 1) v7 us7 (N ++ N7) w7 h7)
    have HOK7 := Lib.hid h7.ok
    clear h7 m7 hrep HR
    by_cases h41 : nowP l1 = 41
    · rw [if_pos h41] at hr2
      have HR2 := Lib.hid hr2
      rw [nowR_eq h41 (by decide)] at HN8
      have hn2 : nowP l1 ≠ -1 := by rw [h41]; decide
      have hlt2 := (Shr.tail HOK7.out hn2).lt
      have HPASS2 := Lib.hid (fun W (kk : RP W p E l1 d v7 us7 (N ++ N7)) => (kk.pass hn2).2 _ rfl)
      clear hr2 h41 hn2
      go_wp2_with fail
      refine HN8.out.mono ?_
      rintro e w8 ⟨rfl, h8, m8⟩
      obtain ⟨top', s', size', plain', bad', hb, c0, c1, c2, c3, c6, c7, c8, c9, c10⟩ := h8.cells
      have ff := fun i => free_blk hb i
      have hwr2 : IntKind.i64.wrap ((E.at' l1 : Int) + 1) = (E.at' l1 : Int) + 1 := by have := h8.small; simp [IntKind.wrap, IntKind.bits, IntKind.signed]; omega
      have hwd2 : IntKind.i64.wrap (((d + 1 : Nat) : Int) - 1) = (d : Int) := by simp [IntKind.wrap, IntKind.bits, IntKind.signed]; omega
      have hwd3 : IntKind.i64.wrap ((d : Int) + 1 - 1) = (d : Int) := by simp [IntKind.wrap, IntKind.bits, IntKind.signed]; omega
      obtain ⟨w9, hw9⟩ : ∃ w9, w9 = w8.setCell ⟨p, 10, none⟩ (.int .i64 (d : Nat)) := ⟨_, rfl⟩
      obtain ⟨h9, m9⟩ := h8.cell10 d w9 hw9
      obtain ⟨w10, hw10⟩ : ∃ w10, w10 = w9.setCell ⟨p, 1, none⟩ (.int .i64 ((E.at' l1 : Int) + 1)) := ⟨_, rfl⟩
      have h10 := HPASS2.out w9 h9
      rw [← hw10] at h10
      have H10 := Lib.hid h10.1; have M10 := Lib.hid (((M7.out.p m8).p m9).p h10.2)
      have HW10 := Lib.hid (show w10 = (w8.setCell ⟨p, 10, none⟩ (.int .i64 (d : Nat))).setCell ⟨p, 1, none⟩ (.int .i64 ((E.at' l1 : Int) + 1)) by rw [hw10, hw9])
      clear h8 m8 hb c0 c2 c3 c6 c7 c8 c9 h9 m9 h10 hw9 hw10
      go_wp2
      go_ret
      rw [← HW10.out, HR2.out]
      exact ⟨n, v7, us7, N7, rfl, H10.out, HREP.out, by omega, M10.out⟩
    · rw [if_neg h41] at hr2
      have HR2 := Lib.hid hr2
      have q41 := nowR_ne h41 (by decide)
      have q42 : (nowR l1 != 41) = true := by rw [bne_iff_ne]; rw [beq_eq_false_iff_ne] at q41; exact q41
      clear hr2 h41
      generalize nowR l1 = x at *
      go_wp2_with fail
      refine HN8.out.mono ?_
      rintro e w8 ⟨rfl, h8, m8⟩
      have HF := Lib.hid (fail_is p 8 E l1 (d + 1) (M + 2) v7 us7 (N ++ N7) w8 h8 (by decide) (by omega))
      have M8 := Lib.hid (M7.out.p m8)
      clear h8 m8
      go_wp2_with fail
      refine HF.out.mono ?_
      rintro e w9 ⟨rfl, h9, m9⟩
      have H9 := Lib.hid h9; have M9 := Lib.hid (M8.out.p m9)
      clear h9 m9
      go_wp2
      go_ret
      rw [HR2.out]
      exact ⟨0, v7, rfl, H9.out, M9.out⟩
theorem groups : ∀ k d, d + k = 20 → GCr (grpP k) d (1102 + 2 * k)
  | 0, d, h => by
    obtain rfl : d = 20 := by omega
    exact group_20 _ (by decide)
  | k + 1, d, h => by
    have := group_up k d _ (groups k (d + 1) (by omega)) (by omega) (by omega) (by omega)
    rw [show 1102 + 2 * (k + 1) = 1102 + 2 * k + 2 by omega]; exact this
end
end
end Go.Proofs.YtinjdlplbficiaaGreatDoor
