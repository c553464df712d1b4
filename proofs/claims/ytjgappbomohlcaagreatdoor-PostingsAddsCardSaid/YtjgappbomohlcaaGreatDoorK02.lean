/-
  Labels in memory: what several walks share; what is wrong with a label.
  Right: the program's own.
  The bytes of labels: the program's Put.
  Names: the plain answers' own; and whether bytes go on with a rune.
  The law's own: whether labels, operations, matchers are more than is looked at.
  And, Or, Less of lists of numbers.
-/
import Derived.Lib.SliceRun
import Derived.OwnWalk
import Derived.Test.YtjgappbomohlcaaGreatDoorK01
import Derived.Test.YtjgappbomohlcaaGreatDoorKNa
import Derived.Test.YtjgappbomohlcaaGreatDoorKUto
namespace Go.Proofs.YtjgappbomohlcaaGreatDoor
section
set_option linter.unusedVariables false
set_option linter.unusedSimpArgs false
open Go.RowKit
section
set_option maxHeartbeats 1600000
set_option maxRecDepth 100000
/-- Not too many labels, nor too long ones. -/
def Few (l : List Lb) : Prop := l.length ≤ 6000 ∧ ∀ x ∈ l, x.1.size ≤ 6000 ∧ x.2.size ≤ 6000
theorem fault_any (x : Lb) (w : World) (hT : Tabs w) (h1 : x.1.size ≤ 1000000) (h2 : x.2.size ≤ 1000000) : Calls Tryz.prog 93 #[.agg #[.string x.1, .string x.2]] w fun e w' => e = .returned (.int .i64 (faultP x : Nat)) ∧ Below w.heap.size w w' := by
  obtain ⟨x1, x2⟩ := x
  simp only at h1 h2
  have hn := named_any x1 (w.alloc (.cells #[.string x1, .string x2] 80))
  have hv := fun W h => valued_any x2 W h h2
  have hbw : RowKit.Below w.heap.size w (w.alloc (.cells #[.string x1, .string x2] 80)) := (RowKit.Below.refl _ w).alloc (Nat.le_refl _) _
  unfold faultP
  simp only
  generalize namedP (bl x1) = N at hn ⊢
  generalize valuedP (bl x2) = V at hv ⊢
  have HN := Lib.hid hn; clear hn
  have HV := Lib.hid hv; clear hv
  have HT := Lib.hid hT; clear hT
  have HBW := Lib.hid hbw; clear hbw
  cases N with
  | false =>
    go_enter Tryz.func93, Tryz.ntmps93
    go_wp2_with fail
    refine HN.out.mono ?_
    rintro e w1 ⟨rfl, hb⟩
    have HB := Lib.hid hb; clear hb
    go_wp2
    go_ret
    exact ⟨rfl, HBW.out.trans (HB.out.mono HBW.out.size)⟩
  | true =>
    go_enter Tryz.func93, Tryz.ntmps93
    go_wp2_with fail
    refine HN.out.mono ?_
    rintro e w1 ⟨rfl, hb⟩
    have hbx := (hb.block w.heap.size (by simp)).trans (heap_alloc_new w _)
    have c1 := cell_blk hbx 1
    simp only [List.getElem?_toArray, List.getElem?_cons_zero, List.getElem?_cons_succ] at c1
    have HB := Lib.hid (HBW.out.trans (hb.mono HBW.out.size)); clear hb hbx
    have hv := HV.out w1 (HT.out.below HB.out)
    have HV1 := Lib.hid hv; clear hv
    cases V with
    | false =>
      go_wp2_with fail
      refine HV1.out.mono ?_
      rintro e w2 ⟨rfl, hb⟩
      have HB2 := Lib.hid hb; clear hb
      go_wp2
      go_ret
      exact ⟨rfl, HB.out.trans (HB2.out.mono HB.out.size)⟩
    | true =>
      go_wp2_with fail
      refine HV1.out.mono ?_
      rintro e w2 ⟨rfl, hb⟩
      have HB2 := Lib.hid hb; clear hb
      go_wp2
      go_ret
      exact ⟨rfl, HB.out.trans (HB2.out.mono HB.out.size)⟩
theorem own_parts {w : World} {B g cap : Nat} {l : List Lb} (h : w.ownsRow B 80 2 (.slice (some ⟨g, 0, none⟩) l.length cap) l.length (lcells l)) :
    B ≤ g ∧ l.length ≤ cap ∧ cap ≤ maxLen ∧ ∃ tl : List Value, (lcells l ++ tl).length = cap * 2 ∧ w.heap[g]? = some (.cells (lcells l ++ tl).toArray 80 (0, 0)) := by
  rcases h.2 with ⟨h1, _⟩ | ⟨g', cap', cur, e, hB, hg, hnc, hcm, hcs, htk⟩
  · cases h1
  · injection e with e1 e2 e3
    injection e1 with e1
    injection e1 with e1
    subst e1; subst e3
    refine ⟨hB, hnc, hcm, cur.toList.drop (l.length * 2), ?_, ?_⟩
    · rw [← htk, List.take_append_drop, Array.length_toList, hcs]
    · rw [← htk, List.take_append_drop]; exact hg
theorem own_made {w : World} {B g cap n : Nat} {l : List Lb} {tl : List Value} (hB : B ≤ g) (hn : n = l.length) (h1 : l.length ≤ cap) (h2 : cap ≤ maxLen) (h3 : (lcells l ++ tl).length = cap * 2) (hg : w.heap[g]? = some (.cells (lcells l ++ tl).toArray 80 (0, 0))) :
    w.ownsRow B 80 2 (.slice (some ⟨g, 0, none⟩) n cap) n (lcells l) := by
  subst hn
  refine ⟨lcells_len l, .inr ⟨g, cap, _, rfl, hB, hg, h1, h2, by simpa using h3, ?_⟩⟩
  rw [List.toList_toArray, List.take_append_of_le_length (by rw [lcells_len]; exact Nat.le_refl _), List.take_of_length_le (by rw [lcells_len]; exact Nat.le_refl _)]
theorem own_rd2 {w : World} {g : Nat} {l : List Lb} {tl : List Value} (hg : w.heap[g]? = some (.cells (lcells l ++ tl).toArray 80 (0, 0))) : Rd w (some ⟨g, 0, none⟩) (lcells l) := by
  intro k v hv
  refine ⟨g, 0, rfl, ?_⟩
  rw [Nat.zero_add, cell_blk hg k, List.getElem?_toArray, List.getElem?_append_left (List.getElem?_eq_some_iff.1 hv).1, hv]
theorem own_whole {w : World} {B g : Nat} {l : List Lb} (hB : B ≤ g) (hl : l.length ≤ maxLen) (hg : w.heap[g]? = some (.cells (lcells l).toArray 80 (0, 0))) : w.ownsRow B 80 2 (.slice (some ⟨g, 0, none⟩) l.length l.length) l.length (lcells l) :=
  own_made (tl := []) hB rfl (Nat.le_refl _) hl (by simp [lcells_len]) (by simpa using hg)
theorem own_rdL {w : World} {B : Nat} {v : Value} {l : List Lb} (h : w.ownsRow B 80 2 v l.length (lcells l)) : ∃ A c, v = .slice A l.length c ∧ Rd w A (lcells l) := by
  rcases h.2 with ⟨rfl, h0⟩ | ⟨g, cap, cur, rfl, hB, hg, hnc, hcm, hcs, htk⟩
  · have : l = [] := List.eq_nil_of_length_eq_zero h0
    subst this
    exact ⟨none, 0, rfl, Rd.nil _ _⟩
  · obtain ⟨_, _, _, tl, _, hg'⟩ := own_parts h
    exact ⟨some ⟨g, 0, none⟩, cap, rfl, own_rd2 hg'⟩
def lenV : Value → Nat
  | .slice _ n _ => n
  | _ => 0
/-- append of labels that came from anywhere onto a row of the call's own. -/
theorem wpList_append_lb {w : World} {ops : Array Oper} {rest : List Oper} {o : Oper} {a : Act} {Q : Exit → Act → World → Prop} (hgd : o.guard = none) (s x : Operand)
    (ho : o.op = .call { callee := .builtin .append, args := #[s, x], argTypes := #[25, 25] }) (hty : o.type = 25)
    (base : Nat) (v : Value) (xs : List Lb) (hs : a.eval s = v) (hown : w.ownsRow base 80 2 v xs.length (lcells xs))
    (A : Option Addr) (c : Nat) (ys : List Lb) (hx : a.eval x = .slice A ys.length c) (hy : Rd w A (lcells ys))
    (hl : xs.length + ys.length ≤ 1000000) (hbase : base ≤ w.heap.size)
    (h : ∀ v' w', w'.ownsRow base 80 2 v' (xs ++ ys).length (lcells (xs ++ ys)) → w.grownBy w' v.ownBlock → wpList Tryz.prog ops Q rest (a.put o.dst v') w') : wpList Tryz.prog ops Q (o :: rest) a w := by
  obtain ⟨i0, hi, hz0, hz1, hz2⟩ := info_parts infoLb
  rw [List.length_append, lcells_append] at h
  cases A with
  | some ad =>
    exact wpList_append_own w hgd s x 25 ho base 80 i0 (.agg #[.string ⟨#[]⟩, .string ⟨#[]⟩]) 2 32 Tryz.underlying25 hi hz0 hz1 hz2 rfl (by decide) v xs.length (lcells xs) hs hown ad ys.length c (lcells ys) hx (lcells_len ys) (rd_cells hy) (lcells_one' ys) (by unfold maxLen; omega) (by omega) hbase (fun v' w' a b _ => h v' w' a b)
  | none =>
    obtain rfl := lb_nil hy
    have hrun := run_append_none (P := Tryz.prog) base 25 o.type 80 i0 2 Tryz.underlying25 hi v xs.length c (lcells xs) hown
    refine wpList_plain hgd fun K hK => ?_
    unfold Oper.wp execOp
    simp only [ho, resolve, invoke, builtin, Sem.run_bind, Sem.run_pure, Result.andThen_ok, List.map_toArray, List.map_cons, List.map_nil, hs, hx, List.length_nil, hrun]
    exact hK _ _ (h v w (by simpa [lcells] using hown) ⟨rfl, rfl, rfl, Nat.le_refl _, fun _ _ _ => rfl⟩)
end
end
section
set_option linter.unusedVariables false
set_option linter.unusedSimpArgs false
open Go.RowKit
theorem less_bytes : ∀ a b : Bs, Op.bytesLess a b = decide (a < b)
  | [], [] => by simp [Op.bytesLess]
  | _ :: _, [] => by simp [Op.bytesLess]
  | [], _ :: _ => by simp [Op.bytesLess]
  | x :: a, y :: b => by
    unfold Op.bytesLess
    rw [less_bytes a b]
    simp only [List.cons_lt_cons_iff]
    by_cases h1 : x < y <;> by_cases h2 : x = y <;> simp [h1, h2]
/-- Is a text no more than another one? -/
theorem leq_text {P : Program} (t : TypeId) (a b : ByteArray) (w : World) : (binOp .leq t (.string a) (.string b)).run P w = .ok (.bool (!decide (bl b < bl a))) w := by
  have e : (Op.bytesLess a.toList b.toList || a.toList == b.toList) = !decide (bl b < bl a) := by
    rw [less_bytes, toList_bl, toList_bl, Bool.beq_eq_decide_eq]
    rcases ltB_total (bl a) (bl b) with h | h | h
    · simp [h, ltB_asymm h]
    · simp [h, ltB_irrefl]
    · have n : ¬ bl a = bl b := fun hh => by rw [hh] at h; exact ltB_irrefl _ h
      simp [h, ltB_asymm h, n]
  simp [binOp, Op.stringOp, e]
theorem rightAt_fault {p : Option ByteArray} {x : Lb} (h : faultP x ≠ 0) : rightAt p x = faultP x := by unfold rightAt; rw [if_pos h]
theorem rightAt_empty {p : Option ByteArray} {x : Lb} (h : faultP x = 0) (hz : x.2.size = 0) : rightAt p x = 51 := by unfold rightAt; rw [if_neg (by omega), if_pos hz]
theorem rightAt_first {x : Lb} (h : faultP x = 0) (hz : ¬ x.2.size = 0) : rightAt none x = 0 := by unfold rightAt; rw [if_neg (by omega), if_neg hz]
theorem rightAt_next {p : ByteArray} {x : Lb} (h : faultP x = 0) (hz : ¬ x.2.size = 0) : rightAt (some p) x = if bl p < bl x.1 then 0 else 53 := by unfold rightAt; rw [if_neg (by omega), if_neg hz]
section
set_option maxHeartbeats 1600000
set_option maxRecDepth 100000
theorem right_any (A : Option Addr) (c : Nat) (l : List Lb) (w : World) (hT : Tabs w) (hx : Rd w A (lcells l)) (hf : Few l) :
    Calls Tryz.prog 73 #[.slice A l.length c] w fun e w' => e = .returned (.int .i64 (rightP l : Nat)) ∧ Below w.heap.size w w' := by
  obtain ⟨R, hR⟩ : ∃ R, R = rightP l := ⟨_, rfl⟩
  rw [← hR]
  unfold rightP at hR
  have HT := Lib.hid hT; clear hT
  have HF := Lib.hid hf
  have hfl := hf.1
  clear hf
  by_cases h16 : 16 < l.length
  · rw [if_pos h16] at hR
    subst hR
    have hz : (16 : Int) < (l.length : Int) := by omega
    go_enter Tryz.func73, Tryz.ntmps73
    go_wp2
    go_ret
    exact ⟨rfl, Below.refl _ _⟩
  · rw [if_neg h16] at hR
    have hz : ¬ (16 : Int) < (l.length : Int) := by omega
    have hst : R = rightGo (prevAt l 0) (l.drop 0) := hR
    have HST := Lib.hid hst; clear hst hR
    go_enter Tryz.func73, Tryz.ntmps73
    go_wp2
    go_loopw [11] (fun s11 wr => ∃ k : Nat, s11 = .int .i64 k ∧ k ≤ l.length ∧ Aside (Below w.heap.size w wr) ∧ Aside (R = rightGo (prevAt l k) (l.drop k))) (fun s11 _ => l.length - (intOf s11).toNat)
    case atStart => exact ⟨0, rfl, by omega, Below.refl _ _, HST.out⟩
    case round =>
      obtain ⟨k, rfl, hk, BW, E⟩ := hrel
      have k0 : (0 : Int) ≤ (k : Int) := by omega
      by_cases hlt : k < l.length
      · have k1 : (k : Int) < (l.length : Int) := by omega
        have hxr := hx.below BW.out
        obtain ⟨b, off, rfl, c0, c1⟩ := lb_at hxr hlt
        have hfx := HF.out.2 l[k] (List.getElem_mem hlt)
        have hE := E.out.trans (rightGo_step hlt)
        have HXR := Lib.hid hxr; clear hxr hx E
        have hprev : ∀ j, k = j + 1 → ∃ p : ByteArray, prevAt l k = some p ∧ wr.cell? ⟨b, off + j * 2, none⟩ = some (.string p) := by
          intro j hj
          subst hj
          have hjl : j < l.length := by omega
          obtain ⟨b', off', e, p0, _⟩ := lb_at HXR.out hjl
          injection e with e; injection e with e1 e2 _; subst e1; subst e2
          exact ⟨l[j].1, by simp [prevAt, hjl], p0⟩
        have hprev0 : k = 0 → prevAt l k = none := fun h => by subst h; rfl
        have HPREV := Lib.hid hprev; clear hprev
        have HPREV0 := Lib.hid hprev0; clear hprev0
        generalize l[k] = x at c0 c1 hfx hE
        obtain ⟨x1, x2⟩ := x
        simp only at hfx c0 c1
        obtain ⟨f1, f2⟩ := hfx
        have hbw : Below w.heap.size w (wr.alloc (.cells #[.string x1, .string x2] 80)) := BW.out.alloc BW.out.size _
        have hc := fault_any (x1, x2) (wr.alloc (.cells #[.string x1, .string x2] 80)) (HT.out.below hbw) (by show x1.size ≤ _; omega) (by show x2.size ≤ _; omega)
        have HBW := Lib.hid hbw; clear hbw
        obtain ⟨n, hn⟩ : ∃ n, n = faultP (x1, x2) := ⟨_, rfl⟩
        rw [← hn] at hc
        simp only at hc
        have HC := Lib.hid hc; clear hc
        have F1 := Lib.hid (show n ≠ 0 → R = n from fun h => by
          rw [hn] at h
          rw [hE, rightAt_fault h, if_pos h, hn])
        have F2 := Lib.hid (show n = 0 → x2.size = 0 → R = 51 from fun h hz => by
          rw [hn] at h
          rw [hE, rightAt_empty h hz]; rfl)
        have F3 := Lib.hid (show n = 0 → ¬ x2.size = 0 → prevAt l k = none → R = rightGo (prevAt l (k + 1)) (l.drop (k + 1)) from fun h hz hp => by
          rw [hn] at h
          rw [hE, hp, rightAt_first h hz]; rfl)
        have F4 := Lib.hid (show n = 0 → ¬ x2.size = 0 → ∀ p, prevAt l k = some p → R = if bl p < bl x1 then rightGo (prevAt l (k + 1)) (l.drop (k + 1)) else 53 from fun h hz p hp => by
          rw [hn] at h
          rw [hE, hp, rightAt_next h hz]
          by_cases hh : bl p < bl x1
          · simp [hh]
          · simp [hh])
        clear hE hn
        -- the box behind what is asked of the label
        have hbox : ∀ w1, Below (wr.alloc (.cells #[.string x1, .string x2] 80)).heap.size (wr.alloc (.cells #[.string x1, .string x2] 80)) w1 → w1.cell? ⟨wr.heap.size, 0, none⟩ = some (.string x1) ∧ w1.cell? ⟨wr.heap.size, 1, none⟩ = some (.string x2) := fun w1 hb => by
          have h := (hb.block wr.heap.size (by simp)).trans (heap_alloc_new wr _)
          have h0 := cell_blk h 0
          have h1 := cell_blk h 1
          simp only [List.getElem?_toArray, List.getElem?_cons_zero, List.getElem?_cons_succ] at h0 h1
          exact ⟨h0, h1⟩
        have HBOX := Lib.hid hbox; clear hbox
        have hcell : ∀ w1, Below (wr.alloc (.cells #[.string x1, .string x2] 80)).heap.size (wr.alloc (.cells #[.string x1, .string x2] 80)) w1 → ∀ a v, wr.cell? a = some v → w1.cell? a = some v := fun w1 hb a v h => by
          have hl : a.block < wr.heap.size := World.block_lt_of_cell? wr _ h
          rw [hb.cell (by simp; omega)]
          exact Lib.cell?_alloc_some _ h
        have HCELL := Lib.hid hcell; clear hcell
        have ex2 : x2.size = 0 → x2 = ⟨#[]⟩ := size_zero
        have EX2 := Lib.hid ex2; clear ex2
        by_cases hn0 : n = 0
        · subst hn0
          by_cases hz2 : x2.size = 0
          · obtain rfl := EX2.out hz2
            have hr : R = 51 := F2.out rfl hz2
            subst hr
            go_wp2_with fail
            refine HC.out.mono ?_
            rintro e w1 ⟨rfl, hb⟩
            obtain ⟨b0, b1⟩ := HBOX.out _ hb
            have HB := Lib.hid (HBW.out.trans (hb.mono HBW.out.size)); clear hb
            go_wp2
            go_ret
            exact ⟨rfl, HB.out⟩
          · obtain ⟨e1, e2⟩ := ne_empty hz2
            by_cases hk0 : k = 0
            · have hp := HPREV0.out hk0
              subst hk0
              rw [Nat.zero_mul, Nat.add_zero] at c0 c1
              have HE := Lib.hid (F3.out rfl hz2 hp); clear hp hz2
              go_wp2_with fail
              refine HC.out.mono ?_
              rintro e w1 ⟨rfl, hb⟩
              obtain ⟨b0, b1⟩ := HBOX.out _ hb
              have HB := Lib.hid (HBW.out.trans (hb.mono HBW.out.size)); clear hb
              go_wp2_with fail
              go_quiet (fail)
              go_wp2
              go_roundw
              case rel => exact ⟨1, by go_num, by omega, (show Aside _ from below_drewN HB.out _), (show Aside _ from HE.out)⟩
              case measure => simp [intOf]; omega
            · obtain ⟨j, rfl⟩ : ∃ j, k = j + 1 := ⟨k - 1, by omega⟩
              obtain ⟨p, hp, hpc⟩ := HPREV.out j rfl
              have hle := fun u => leq_text (P := Tryz.prog) 9 x1 p u
              have g0 : (0 : Int) < (j : Int) + 1 := by omega
              have g1 : (j : Int) + 1 < (l.length : Int) := by omega
              have g2 : (0 : Int) ≤ (j : Int) + 1 := by omega
              have g3 : (0 : Int) ≤ (j : Int) := by omega
              have g4 : (j : Int) < (l.length : Int) := by omega
              have g5 : j < l.length := by omega
              have g6 : j + 1 < l.length := by omega
              have hE2 := F4.out rfl hz2 p hp
              clear hz2
              by_cases hlt2 : bl p < bl x1
              · rw [if_pos hlt2] at hE2
                simp only [hlt2, decide_true, Bool.not_true] at hle
                have HE := Lib.hid hE2; clear hE2 hlt2 hp
                have HPC := Lib.hid hpc; clear hpc
                go_wp2_with fail
                refine HC.out.mono ?_
                rintro e w1 ⟨rfl, hb⟩
                obtain ⟨b0, b1⟩ := HBOX.out _ hb
                have p1 := HCELL.out _ hb _ _ HPC.out
                have HB := Lib.hid (HBW.out.trans (hb.mono HBW.out.size)); clear hb
                go_wp2_with fail
                go_quiet (fail)
                go_wp2
                go_roundw
                case rel => exact ⟨j + 1 + 1, by go_num, by omega, (show Aside _ from below_drewN HB.out _), (show Aside _ from HE.out)⟩
                case measure => simp [intOf]; omega
              · rw [if_neg hlt2] at hE2
                simp only [hlt2, decide_false, Bool.not_false] at hle
                subst hE2
                clear hlt2 hp
                have HPC := Lib.hid hpc; clear hpc
                go_wp2_with fail
                refine HC.out.mono ?_
                rintro e w1 ⟨rfl, hb⟩
                obtain ⟨b0, b1⟩ := HBOX.out _ hb
                have p1 := HCELL.out _ hb _ _ HPC.out
                have HB := Lib.hid (HBW.out.trans (hb.mono HBW.out.size)); clear hb
                go_wp2_with fail
                go_quiet (fail)
                go_wp2
                go_ret
                exact ⟨rfl, below_drewN HB.out _⟩
        · have hr : R = n := F1.out hn0
          subst hr
          have hn1 : ((R : Int) != 0) = true := by rw [bne_iff_ne]; omega
          clear hn0
          go_wp2_with fail
          refine HC.out.mono ?_
          rintro e w1 ⟨rfl, hb⟩
          have HB := Lib.hid (HBW.out.trans (hb.mono HBW.out.size)); clear hb
          go_wp2
          go_ret
          exact ⟨rfl, HB.out⟩
      · obtain rfl : k = l.length := by omega
        have hr : R = 0 := by rw [E.out, List.drop_length]; rfl
        subst hr
        go_wp2
        go_ret
        exact ⟨rfl, BW.out⟩
end
end
section
set_option linter.unusedVariables false
set_option linter.unusedSimpArgs false
open Go.RowKit
def sizedP (s : ByteArray) : Bs := pu s.size ++ bl s
def labBytes (l : List Lb) : Bs := l.flatMap fun x => sizedP x.1 ++ sizedP x.2
/-- The bytes of labels. -/
def bytesP (l : List Lb) : Nat × Bs := if rightP l ≠ 0 then (rightP l, []) else (0, pu l.length ++ labBytes l)
section
set_option maxHeartbeats 1600000
set_option maxRecDepth 100000
theorem sized_any (s : ByteArray) (w : World) (hl : s.size ≤ 1000000) : Calls Tryz.prog 75 #[.string s] w fun e w' => ∃ A c, e = .returned (.slice A (sizedP s).length c) ∧
    w'.ownsRow w.heap.size 5 1 (.slice A (sizedP s).length c) (sizedP s).length ((sizedP s).map Bv) ∧ Below w.heap.size w w' := by
  obtain ⟨i0, hi, hz0, hz1, hz2⟩ := info_parts infoU8
  have hp := fun W => pu_any s.size W (by omega)
  have hl10 := pu_len 10 s.size (by omega)
  have hlen : (sizedP s).length = (pu s.size).length + s.size := by unfold sizedP; rw [List.length_append, bl_len]
  have hmap : (sizedP s).map Bv = (pu s.size).map Bv ++ Lib.strCells s := by unfold sizedP; rw [List.map_append]; rfl
  rw [hlen, hmap]
  generalize pu s.size = p at hp hl10
  have HP := Lib.hid hp; clear hp hlen hmap
  go_enter Tryz.func75, Tryz.ntmps75
  go_wp2_with fail
  refine (HP.out _).mono ?_
  rintro e w1 ⟨v, rfl, hown, hb⟩
  have hs1 := hb.size
  go_wp2_with (first | (at_builtin; (refine Lib.wpList_append_own_string _ rfl _ _ 85 9 rfl w.heap.size 5 i0 Tryz.underlying85 Tryz.underlying9 hi hz0 hz1 hz2 _ p.length (p.map Bv) rfl hown s rfl (by unfold maxLen; omega) (by omega) (by omega) ?_; intro v' w2 hown' hgrow hg')) | fail)
  go_ret
  obtain ⟨A2, c2, e2, -⟩ := own_rd hown'
  subst e2
  exact ⟨A2, c2, rfl, hown', hb.grown hgrow hs1 (fun k h => (hown.lt k h).1)⟩
theorem put_bytes_any (A : Option Addr) (c : Nat) (l : List Lb) (w : World) (hT : Tabs w) (hx : Rd w A (lcells l)) (hf : Few l) :
    Calls Tryz.prog 50 #[.slice A l.length c] w fun e w' => ∃ A' c', e = .returned (.tuple #[.slice A' (bytesP l).2.length c', .int .i64 ((bytesP l).1 : Nat)]) ∧
      w'.ownsRow w.heap.size 5 1 (.slice A' (bytesP l).2.length c') (bytesP l).2.length ((bytesP l).2.map Bv) ∧ Below w.heap.size w w' := by
  have hr := right_any A c l w hT hx hf
  obtain ⟨r, hrr⟩ : ∃ r, r = rightP l := ⟨_, rfl⟩
  obtain ⟨R, hR⟩ : ∃ R, R = bytesP l := ⟨_, rfl⟩
  rw [← hR]
  unfold bytesP at hR
  rw [← hrr] at hr hR
  clear hrr
  have HRI := Lib.hid hr; clear hr
  have hfl := hf.1
  have HF := Lib.hid hf; clear hf
  by_cases h0 : r = 0
  · subst h0
    rw [if_neg (by simp)] at hR
    have hp := fun W => pu_any l.length W (by omega)
    have hl10 := pu_len 10 l.length (by omega)
    have hst : R = (0, pu l.length ++ labBytes (l.take 0) ++ labBytes (l.drop 0)) := by rw [hR]; simp [labBytes]
    have HST := Lib.hid hst; clear hst hR
    have hpl : (pu l.length).length ≤ 10 := by omega
    generalize pu l.length = p at hp HST hpl
    have HP := Lib.hid hp; clear hp hl10
    go_enter Tryz.func50, Tryz.ntmps50
    go_wp2_with fail
    refine HRI.out.mono ?_
    rintro e w1 ⟨rfl, hb1⟩
    have HB1 := Lib.hid hb1; clear hb1
    go_wp2_with fail
    refine (HP.out _).mono ?_
    rintro e w2 ⟨v, rfl, hown, hb2⟩
    have HO2 := Lib.hid (hown.lower HB1.out.size); clear hown
    have HB2 := Lib.hid (HB1.out.trans (hb2.mono HB1.out.size)); clear hb2
    go_wp2
    go_loopw [5, 19] (fun s5 s19 wr => ∃ (k : Nat) (acc : Bs), s19 = .int .i64 k ∧ k ≤ l.length ∧ acc.length ≤ 10 + k * 20000 ∧ Aside (wr.ownsRow w.heap.size 5 1 s5 acc.length (acc.map Bv)) ∧ Aside (RowKit.Below w.heap.size w wr) ∧ Aside (R = (0, acc ++ labBytes (l.drop k)))) (fun _ s19 _ => l.length - (intOf s19).toNat)
    case atStart => exact ⟨0, p, rfl, by omega, by omega, HO2.out, HB2.out, (show R = _ from by rw [HST.out]; simp [labBytes])⟩
    case round =>
      obtain ⟨k, acc, rfl, hk, hal, OW, BW, E⟩ := hrel
      have k0 : (0 : Int) ≤ (k : Int) := by omega
      obtain ⟨A5, c5, hv5, hrd5, -⟩ := own_rd OW.out
      subst hv5
      clear hrd5
      by_cases hlt : k < l.length
      · have k1 : (k : Int) < (l.length : Int) := by omega
        obtain ⟨b, off, rfl, c0, c1⟩ := lb_at (hx.below BW.out) hlt
        have hfx := HF.out.2 l[k] (List.getElem_mem hlt)
        have hE : R = (0, (acc ++ sizedP l[k].1 ++ sizedP l[k].2) ++ labBytes (l.drop (k + 1))) := by
          rw [E.out]; unfold labBytes; rw [List.drop_eq_getElem_cons hlt, List.flatMap_cons]; simp only [List.append_assoc]
        have HE := Lib.hid hE; clear hE E hx
        generalize l[k] = x at c0 c1 hfx HE
        obtain ⟨x1, x2⟩ := x
        simp only at hfx c0 c1
        obtain ⟨f1, f2⟩ := hfx
        have ho : (wr.alloc (.cells #[.string x1, .string x2] 80)).ownsRow w.heap.size 5 1 (.slice A5 acc.length c5) acc.length (acc.map Bv) := OW.out.alloc _
        have hbw : RowKit.Below w.heap.size w (wr.alloc (.cells #[.string x1, .string x2] 80)) := BW.out.alloc BW.out.size _
        have hbx := heap_alloc_new wr (.cells #[.string x1, .string x2] 80)
        have hws : (wr.alloc (.cells #[.string x1, .string x2] 80)).heap.size = wr.heap.size + 1 := World.size_alloc _ _
        have hc1 := sized_any x1 (wr.alloc (.cells #[.string x1, .string x2] 80)) (by omega)
        have hc2 := fun W => sized_any x2 W (by omega)
        have hs1 : (sizedP x1).length ≤ 10 + x1.size := by unfold sizedP; rw [List.length_append, bl_len]; have := pu_len 10 x1.size (by omega); omega
        have hs2 : (sizedP x2).length ≤ 10 + x2.size := by unfold sizedP; rw [List.length_append, bl_len]; have := pu_len 10 x2.size (by omega); omega
        generalize sizedP x1 = y1 at HE hc1 hs1
        generalize sizedP x2 = y2 at HE hc2 hs2
        have HO := Lib.hid ho; have HBW := Lib.hid hbw; have HBX := Lib.hid hbx; have HWS := Lib.hid hws; have HC1 := Lib.hid hc1; have HC2 := Lib.hid hc2
        clear ho hbw hbx hws hc1 hc2
        obtain ⟨i0, hi, hz0, hz1, hz2⟩ := info_parts infoU8
        go_wp2_with fail
        refine HC1.out.mono ?_
        rintro e w3 ⟨A7, c7, rfl, ho7, hb7⟩
        have hne : w.heap.size ≤ wr.heap.size := BW.out.size
        have hoA := own_moved HO.out (w' := w3) (fun g hg => hb7.block g (HO.out.lt g hg).2)
        have hbx3 := (hb7.block wr.heap.size (by rw [HWS.out]; omega)).trans HBX.out
        have hB7 := HBW.out.trans (hb7.mono HBW.out.size)
        obtain ⟨A7', c7', e7, hrd7, -⟩ := own_rd ho7
        injection e7 with e7 _ _
        subst e7
        have h3s := hB7.size
        have HOA := Lib.hid hoA; have HBX3 := Lib.hid hbx3; have HB7 := Lib.hid hB7; have HRD7 := Lib.hid hrd7
        have hne4 := own_blk HOA.out HBX3.out (by decide)
        have HNE4 := Lib.hid hne4; clear hne4
        clear hoA hbx3 hB7 hrd7 ho7 hb7
        obtain ⟨acc4, h4⟩ : ∃ a, a = acc ++ y1 := ⟨_, rfl⟩
        have key : ∀ v4 w4, World.ownsRow w4 w.heap.size 5 1 v4 (acc.length + (y1.map Bv).length) (acc.map Bv ++ y1.map Bv) → w3.grownBy w4 (Value.slice A5 acc.length c5).ownBlock →
            ∃ A8 c8, v4 = .slice A8 acc4.length c8 ∧ Aside (World.ownsRow w4 w.heap.size 5 1 (.slice A8 acc4.length c8) acc4.length (acc4.map Bv)) ∧ Aside (RowKit.Below w.heap.size w w4) ∧ w4.cell? ⟨wr.heap.size, 1, none⟩ = some (.string x2) := fun v4 w4 own4 grow4 => by
          have hbx4 := (grow4.block wr.heap.size (blk_lt HBX3.out) (Ne.symm HNE4.out)).trans HBX3.out
          have hB4 : RowKit.Below w.heap.size w w4 := HB7.out.grown grow4 h3s (fun k h => (HOA.out.lt k h).1)
          have d1 := cell_blk hbx4 1
          simp only [List.getElem?_toArray, List.getElem?_cons_zero, List.getElem?_cons_succ] at d1
          have hHO4 : w4.ownsRow w.heap.size 5 1 v4 acc4.length (acc4.map Bv) := by
            rw [h4, List.length_append, List.map_append]; rw [List.length_map] at own4; exact own4
          obtain ⟨A8, c8, hv8, -⟩ := own_rd hHO4
          subst hv8
          exact ⟨A8, c8, rfl, hHO4, hB4, d1⟩
        have KEY := Lib.hid key; clear key
        have hal4 : acc4.length ≤ 6020 + 10 + k * 20000 := by rw [h4, List.length_append]; omega
        have hE2 : R = (0, acc4 ++ y2 ++ labBytes (l.drop (k + 1))) := by rw [h4]; exact HE.out
        have HE2 := Lib.hid hE2; clear hE2 h4
        go_wp2_with (first
          | (at_builtin; go_must (refine wpList_append_rd rfl _ _ 85 rfl w.heap.size 5 i0 (.int .u8 0) 1 Tryz.underlying85 hi hz0 hz1 hz2 rfl _ acc.length (acc.map Bv) rfl HOA.out A7 c7' (y1.map Bv) (by rw [List.length_map]; rfl) HRD7.out (by intro u hu; obtain ⟨z, _, rfl⟩ := List.mem_map.1 hu; rfl) (by rw [List.length_map]; unfold maxLen; omega) (by rw [List.length_map]; omega) (by omega) ?_; intro v4 w4 own4 grow4; obtain ⟨A8, c8, hv8, HO4, HB4, d1⟩ := KEY.out v4 w4 own4 grow4; subst hv8; clear own4 grow4))
          | fail)
        go_wp2_with fail
        refine (HC2.out _).mono ?_
        rintro e w5 ⟨A9, c9, rfl, ho9, hb9⟩
        have hoB := own_moved HO4.out (w' := w5) (fun g hg => hb9.block g (HO4.out.lt g hg).2)
        have hB9 := HB4.out.trans (hb9.mono HB4.out.size)
        obtain ⟨A9', c9', e9, hrd9, -⟩ := own_rd ho9
        injection e9 with e9 _ _
        subst e9
        have h5s := hB9.size
        have HOB := Lib.hid hoB; have HB9 := Lib.hid hB9; have HRD9 := Lib.hid hrd9
        clear hoB hB9 hrd9 ho9 hb9
        go_wp2_with (first
          | (at_builtin; go_must (refine wpList_append_rd rfl _ _ 85 rfl w.heap.size 5 i0 (.int .u8 0) 1 Tryz.underlying85 hi hz0 hz1 hz2 rfl _ acc4.length (acc4.map Bv) rfl HOB.out A9 c9' (y2.map Bv) (by rw [List.length_map]; rfl) HRD9.out (by intro u hu; obtain ⟨z, _, rfl⟩ := List.mem_map.1 hu; rfl) (by rw [List.length_map]; unfold maxLen; omega) (by rw [List.length_map]; omega) (by omega) ?_; intro v6 w6 own6 grow6))
          | fail)
        have hB6 : RowKit.Below w.heap.size w w6 := HB9.out.grown grow6 h5s (fun k h => (HOB.out.lt k h).1)
        have hHO6 : w6.ownsRow w.heap.size 5 1 v6 (acc4 ++ y2).length ((acc4 ++ y2).map Bv) := by
          rw [List.length_append, List.map_append]; rw [List.length_map] at own6; exact own6
        have HO6 := Lib.hid hHO6; have HB6 := Lib.hid hB6; clear own6 grow6 hHO6 hB6
        go_wp2
        go_roundw
        case rel => exact ⟨k + 1, acc4 ++ y2, by go_num, by omega, by rw [List.length_append]; omega, (show Aside _ from HO6.out), (show Aside _ from HB6.out), (show Aside _ from HE2.out)⟩
        case measure => simp [intOf]; omega
      · obtain rfl : k = l.length := by omega
        have hr : R = (0, acc) := by rw [E.out, List.drop_length]; simp [labBytes]
        subst hr
        go_wp2
        go_ret2
        exact ⟨A5, c5, rfl, OW.out, BW.out⟩
  · rw [if_pos h0] at hR
    subst hR
    have g0 : ((r : Int) != 0) = true := by rw [bne_iff_ne]; omega
    go_enter Tryz.func50, Tryz.ntmps50
    go_wp2_with fail
    refine HRI.out.mono ?_
    rintro e w1 ⟨rfl, hb1⟩
    go_wp2
    go_ret2
    exact ⟨none, 0, rfl, World.ownsRow_nil _ _ _ _, hb1⟩
end
end
section
set_option linter.unusedVariables false
set_option linter.unusedSimpArgs false
open Go.RowKit
section
set_option maxHeartbeats 1600000
set_option maxRecDepth 100000
theorem letter_any (r : Nat) (w : World) : Calls Tryz.prog 85 #[.int .u8 (r : Int)] w fun e w' => e = .returned (.bool (letterN r)) ∧ w = w' := by
  have e : letterN r = ((decide (97 ≤ r) && decide (r ≤ 122)) || (decide (65 ≤ r) && decide (r ≤ 90)) || (decide (48 ≤ r) && decide (r ≤ 57)) || decide (r = 95)) := by
    simp only [letterN, Bool.beq_eq_decide_eq]
    cases decide (r = 95) <;> simp
  rw [e]
  clear e
  have key : ∀ b2 b3 b4 b5 b6 b7 b1 : Bool, decide (97 ≤ r) = b2 → decide (r ≤ 122) = b3 → decide (65 ≤ r) = b4 → decide (r ≤ 90) = b5 → decide (48 ≤ r) = b6 → decide (r ≤ 57) = b7 → decide (r = 95) = b1 →
      Calls Tryz.prog 85 #[.int .u8 (r : Int)] w fun e w' => e = .returned (.bool ((b2 && b3) || (b4 && b5) || (b6 && b7) || b1)) ∧ w = w' := by
    intro b2 b3 b4 b5 b6 b7 b1 h2 h3 h4 h5 h6 h7 h1
    have h1' : ((r : Int) == 95) = b1 := by rw [← h1, Bool.beq_eq_decide_eq]; exact decide_eq_decide.2 (by omega)
    have h2' : decide ((97 : Int) ≤ r) = b2 := by rw [← h2]; exact decide_eq_decide.2 (by omega)
    have h3' : decide ((r : Int) ≤ 122) = b3 := by rw [← h3]; exact decide_eq_decide.2 (by omega)
    have h4' : decide ((65 : Int) ≤ r) = b4 := by rw [← h4]; exact decide_eq_decide.2 (by omega)
    have h5' : decide ((r : Int) ≤ 90) = b5 := by rw [← h5]; exact decide_eq_decide.2 (by omega)
    have h6' : decide ((48 : Int) ≤ r) = b6 := by rw [← h6]; exact decide_eq_decide.2 (by omega)
    have h7' : decide ((r : Int) ≤ 57) = b7 := by rw [← h7]; exact decide_eq_decide.2 (by omega)
    clear h1 h2 h3 h4 h5 h6 h7
    cases b2 <;> cases b3 <;> cases b4 <;> cases b5 <;> cases b6 <;> cases b7 <;> cases b1 <;> first | (exfalso; simp only [beq_iff_eq, beq_eq_false_iff_ne, decide_eq_true_eq, decide_eq_false_iff_not, ne_eq] at h1' h2' h3' h4' h5' h6' h7'; omega) | (
      go_enter Tryz.func85, Tryz.ntmps85
      go_wp2
      go_ret
      refine ⟨?_, rfl⟩
      first | rfl | (show Ending.returned (Value.bool _) = _; simp [h1', h2', h3', h4', h5', h6', h7']))
  exact key _ _ _ _ _ _ _ rfl rfl rfl rfl rfl rfl rfl
theorem rnamed_any (s : ByteArray) (w : World) (hl : s.size ≤ 1000000) : Calls Tryz.prog 65 #[.string s] w fun e w' => e = .returned (.bool (namedP (bl s))) ∧ w = w' := by
  obtain ⟨R, hR⟩ : ∃ R, R = namedP (bl s) := ⟨_, rfl⟩
  rw [← hR]
  have HR := Lib.hid hR; clear hR
  go_enter Tryz.func65, Tryz.ntmps65
  go_wp2
  go_loop [6] (fun s6 => ∃ k : Nat, s6 = .int .i64 k ∧ k ≤ s.size ∧ Aside (∀ j, j < k → letterN (byN s j) = true)) (fun s6 => s.size - (intOf s6).toNat)
  case atStart => exact ⟨0, rfl, by omega, fun j hj => absurd hj (Nat.not_lt_zero _)⟩
  case round =>
    obtain ⟨k, rfl, hk, A1⟩ := hrel
    have k0 : (0 : Int) ≤ (k : Int) := by omega
    have hlen := bl_len s
    by_cases hlt : k < s.size
    · have k1 : (k : Int) < (s.size : Int) := by omega
      have hix := fun (u : World) => run_index_s u s .i64 k hlt
      have hc := byN_lt s k
      have hle := letter_any (byN s k) w
      cases hL : letterN (byN s k) with
      | false =>
        have hr : R = false := by
          rw [HR.out]; unfold namedP
          have : (bl s).all (fun c => letterN c.toNat) = false := by
            rw [List.all_eq_false]
            have hlt' : k < (bl s).length := by rw [bl_len]; exact hlt
            refine ⟨(bl s)[k], List.getElem_mem hlt', ?_⟩
            unfold byN at hL
            rw [List.getD, List.getElem?_eq_getElem hlt'] at hL
            simpa using hL
          rw [this]; simp
        subst hr
        rw [hL] at hle
        generalize byN s k = c at hix hc hle
        have HL := Lib.hid hle; clear hle hL hlen
        go_wp2_with (first | (go_at_call 85; refine HL.out.mono ?_; rintro e w1 ⟨rfl, rfl⟩) | fail)
        go_ret
        exact ⟨rfl, rfl⟩
      | true =>
        rw [hL] at hle
        have hA2 : ∀ j, j < k + 1 → letterN (byN s j) = true := fun j hj => by
          by_cases e : j = k
          · subst e; exact hL
          · exact A1.out j (by omega)
        have HA2 := Lib.hid hA2; clear hA2
        generalize byN s k = c at hix hc hle
        have HL := Lib.hid hle; clear hle hL hlen
        go_wp2_with (first | (go_at_call 85; refine HL.out.mono ?_; rintro e w1 ⟨rfl, rfl⟩) | fail)
        go_round
        case rel => exact ⟨k + 1, by go_num, by omega, (show Aside _ from HA2.out)⟩
        case measure => simp [intOf]; omega
    · obtain rfl : k = s.size := by omega
      have hall : (bl s).all (fun c => letterN c.toNat) = true := by
        rw [List.all_eq_true]
        intro x hx
        obtain ⟨j, hj, rfl⟩ := List.mem_iff_getElem.1 hx
        have hj' : j < s.size := by rw [← bl_len]; exact hj
        have := A1.out j hj'
        unfold byN at this
        rwa [List.getD, List.getElem?_eq_getElem hj] at this
      have hr : R = (decide (1 ≤ s.size) && decide (s.size ≤ 64) && !digitN (byN s 0)) := by
        rw [HR.out]; unfold namedP
        rw [hall, Bool.and_true, hlen]
        have : (bl s).headD 0 = (bl s).getD 0 0 := by cases bl s <;> rfl
        rw [this]; rfl
      clear A1 hall hlen hlt
      by_cases h1 : 1 ≤ s.size
      · have g1 : (1 : Int) ≤ (s.size : Int) := by omega
        by_cases h2 : s.size ≤ 64
        · have g2 : (s.size : Int) ≤ 64 := by omega
          have hix : ∀ u, (Instr.index 9 (.string s) (.int .i64 0)).run Tryz.prog u = .ok (.int .u8 (byN s 0 : Nat)) u := fun u => run_index_s u s .i64 0 (by omega)
          rw [decide_eq_true h1, decide_eq_true h2, Bool.true_and, Bool.true_and] at hr
          generalize byN s 0 = c at hix hr
          by_cases h3 : c < 48
          · have g3 : (c : Int) < 48 := by omega
            have hr2 : R = true := by rw [hr]; unfold digitN; rw [decide_eq_false (by omega)]; rfl
            subst hr2
            clear hr
            go_wp2
            go_ret
            exact ⟨rfl, rfl⟩
          · have g3 : ¬ (c : Int) < 48 := by omega
            by_cases h4 : 57 < c
            · have g4 : (57 : Int) < c := by omega
              have hr2 : R = true := by rw [hr]; unfold digitN; rw [decide_eq_false (show ¬ c ≤ 57 by omega)]; simp
              subst hr2
              clear hr
              go_wp2
              go_ret
              exact ⟨rfl, rfl⟩
            · have g4 : ¬ (57 : Int) < c := by omega
              have hr2 : R = false := by rw [hr]; unfold digitN; rw [decide_eq_true (show 48 ≤ c by omega), decide_eq_true (show c ≤ 57 by omega)]; rfl
              subst hr2
              clear hr
              go_wp2
              go_ret
              exact ⟨rfl, rfl⟩
        · have g2 : ¬ (s.size : Int) ≤ 64 := by omega
          have hr2 : R = false := by rw [hr, decide_eq_false h2]; simp
          subst hr2
          clear hr
          go_wp2
          go_ret
          exact ⟨rfl, rfl⟩
      · have g1 : ¬ (1 : Int) ≤ (s.size : Int) := by omega
        have hr2 : R = false := by rw [hr, decide_eq_false h1]; simp
        subst hr2
        clear hr
        go_wp2
        go_ret
        exact ⟨rfl, rfl⟩
end
end
section
set_option linter.unusedVariables false
set_option linter.unusedSimpArgs false
open Go.RowKit
def smallB (l : List Lb) : Bool := decide (l.length ≤ 30) && l.all fun x => decide (x.1.size ≤ 200) && decide (x.2.size ≤ 200)
def shortB10 (l : List Mt') : Bool := decide (l.length ≤ 30) && l.all fun x => decide (x.2.1.size ≤ 200) && decide (x.2.2.size ≤ 200)
def fewOpsB (l : List OpP) : Bool := decide (l.length ≤ 60) && l.all fun o => smallB o.ls
theorem small_few {l : List Lb} (h : smallB l = true) : Few l := by
  unfold smallB at h
  rw [Bool.and_eq_true, decide_eq_true_eq, List.all_eq_true] at h
  refine ⟨by omega, fun x hx => ?_⟩
  have := h.2 x hx
  rw [Bool.and_eq_true, decide_eq_true_eq, decide_eq_true_eq] at this
  omega
theorem short_of {l : List Mt'} (h : shortB10 l = true) : l.length ≤ 30 ∧ ∀ x ∈ l, x.2.1.size ≤ 200 ∧ x.2.2.size ≤ 200 := by
  unfold shortB10 at h
  rw [Bool.and_eq_true, decide_eq_true_eq, List.all_eq_true] at h
  refine ⟨h.1, fun x hx => ?_⟩
  have := h.2 x hx
  rw [Bool.and_eq_true, decide_eq_true_eq, decide_eq_true_eq] at this
  exact this
theorem fewOps_of {l : List OpP} (h : fewOpsB l = true) : l.length ≤ 60 ∧ ∀ o ∈ l, Few o.ls := by
  unfold fewOpsB at h
  rw [Bool.and_eq_true, decide_eq_true_eq, List.all_eq_true] at h
  exact ⟨h.1, fun o ho => small_few (h.2 o ho)⟩
section
set_option maxHeartbeats 1600000
set_option maxRecDepth 100000
theorem big_any (A : Option Addr) (c : Nat) (l : List Lb) (w : World) (hx : Rd w A (lcells l)) : Calls Tryz.prog 13 #[.slice A l.length c] w fun e w' => e = .returned (.bool (!smallB l)) ∧ Below w.heap.size w w' := by
  obtain ⟨R, hR⟩ : ∃ R, R = !smallB l := ⟨_, rfl⟩
  rw [← hR]
  by_cases h60 : l.length ≤ 30
  · have hst : R = !(l.drop 0).all fun x => decide (x.1.size ≤ 200) && decide (x.2.size ≤ 200) := by
      rw [hR]; unfold smallB; rw [decide_eq_true h60, Bool.true_and, List.drop_zero]
    have h60' : ¬ (30 : Int) < (l.length : Int) := by omega
    have HST := Lib.hid hst; clear hst hR
    go_enter Tryz.func13, Tryz.ntmps13
    go_wp2
    go_loopw [10] (fun s10 wr => ∃ k : Nat, s10 = .int .i64 k ∧ k ≤ l.length ∧ Aside (RowKit.Below w.heap.size w wr) ∧ Aside (R = !(l.drop k).all fun x => decide (x.1.size ≤ 200) && decide (x.2.size ≤ 200))) (fun s10 _ => l.length - (intOf s10).toNat)
    case atStart => exact ⟨0, rfl, by omega, RowKit.Below.refl _ _, HST.out⟩
    case round =>
      obtain ⟨k, rfl, hk, BW, E⟩ := hrel
      have k0 : (0 : Int) ≤ (k : Int) := by omega
      by_cases hlt : k < l.length
      · have k1 : (k : Int) < (l.length : Int) := by omega
        obtain ⟨b, off, rfl, c0, c1⟩ := lb_at (hx.below BW.out) hlt
        have hE := E.out
        rw [List.drop_eq_getElem_cons hlt, List.all_cons] at hE
        generalize l[k] = x at c0 c1 hE
        obtain ⟨x1, x2⟩ := x
        simp only at c0 c1 hE
        have HBW := Lib.hid (BW.out.alloc BW.out.size (.cells #[.string x1, .string x2] 80))
        clear hx E
        by_cases h1 : x1.size ≤ 200
        · have g1 : ¬ (200 : Int) < (x1.size : Int) := by omega
          rw [decide_eq_true h1, Bool.true_and] at hE
          by_cases h2 : x2.size ≤ 200
          · have g2 : ¬ (200 : Int) < (x2.size : Int) := by omega
            rw [decide_eq_true h2, Bool.true_and] at hE
            have HE := Lib.hid hE; clear hE
            go_wp2
            go_roundw
            case rel => exact ⟨k + 1, by go_num, by omega, (show Aside _ from HBW.out), (show Aside _ from HE.out)⟩
            case measure => simp [intOf]; omega
          · have g2 : (200 : Int) < (x2.size : Int) := by omega
            rw [decide_eq_false h2, Bool.false_and] at hE
            subst hE
            go_wp2
            go_ret
            exact ⟨rfl, HBW.out⟩
        · have g1 : (200 : Int) < (x1.size : Int) := by omega
          rw [decide_eq_false h1, Bool.false_and, Bool.false_and] at hE
          subst hE
          go_wp2
          go_ret
          exact ⟨rfl, HBW.out⟩
      · obtain rfl : k = l.length := by omega
        have hr : R = false := by rw [E.out, List.drop_length]; rfl
        subst hr
        go_wp2
        go_ret
        exact ⟨rfl, BW.out⟩
  · have hr : R = true := by rw [hR]; unfold smallB; rw [decide_eq_false h60, Bool.false_and]; rfl
    subst hr
    have h60' : (30 : Int) < (l.length : Int) := by omega
    clear hR
    go_enter Tryz.func13, Tryz.ntmps13
    go_wp2
    go_ret
    exact ⟨rfl, RowKit.Below.refl _ _⟩
theorem long_any (A : Option Addr) (c : Nat) (l : List Mt') (w : World) (hx : Rd w A (mcells l)) : Calls Tryz.prog 22 #[.slice A l.length c] w fun e w' => e = .returned (.bool (!shortB10 l)) ∧ Below w.heap.size w w' := by
  obtain ⟨R, hR⟩ : ∃ R, R = !shortB10 l := ⟨_, rfl⟩
  rw [← hR]
  by_cases h60 : l.length ≤ 30
  · have hst : R = !(l.drop 0).all fun x => decide (x.2.1.size ≤ 200) && decide (x.2.2.size ≤ 200) := by
      rw [hR]; unfold shortB10; rw [decide_eq_true h60, Bool.true_and, List.drop_zero]
    have h60' : ¬ (30 : Int) < (l.length : Int) := by omega
    have HST := Lib.hid hst; clear hst hR
    go_enter Tryz.func22, Tryz.ntmps22
    go_wp2
    go_loopw [10] (fun s10 wr => ∃ k : Nat, s10 = .int .i64 k ∧ k ≤ l.length ∧ Aside (RowKit.Below w.heap.size w wr) ∧ Aside (R = !(l.drop k).all fun x => decide (x.2.1.size ≤ 200) && decide (x.2.2.size ≤ 200))) (fun s10 _ => l.length - (intOf s10).toNat)
    case atStart => exact ⟨0, rfl, by omega, RowKit.Below.refl _ _, HST.out⟩
    case round =>
      obtain ⟨k, rfl, hk, BW, E⟩ := hrel
      have k0 : (0 : Int) ≤ (k : Int) := by omega
      by_cases hlt : k < l.length
      · have k1 : (k : Int) < (l.length : Int) := by omega
        obtain ⟨b, off, rfl, c0, c1, c2⟩ := mt_at (hx.below BW.out) hlt
        have hE := E.out
        rw [List.drop_eq_getElem_cons hlt, List.all_cons] at hE
        generalize l[k] = x at c0 c1 c2 hE
        obtain ⟨kk, x1, x2⟩ := x
        simp only at c0 c1 c2 hE
        have HBW := Lib.hid (BW.out.alloc BW.out.size (.cells #[.int .i64 kk, .string x1, .string x2] 66))
        clear hx E
        by_cases h1 : x1.size ≤ 200
        · have g1 : ¬ (200 : Int) < (x1.size : Int) := by omega
          rw [decide_eq_true h1, Bool.true_and] at hE
          by_cases h2 : x2.size ≤ 200
          · have g2 : ¬ (200 : Int) < (x2.size : Int) := by omega
            rw [decide_eq_true h2, Bool.true_and] at hE
            have HE := Lib.hid hE; clear hE
            go_wp2
            go_roundw
            case rel => exact ⟨k + 1, by go_num, by omega, (show Aside _ from HBW.out), (show Aside _ from HE.out)⟩
            case measure => simp [intOf]; omega
          · have g2 : (200 : Int) < (x2.size : Int) := by omega
            rw [decide_eq_false h2, Bool.false_and] at hE
            subst hE
            go_wp2
            go_ret
            exact ⟨rfl, HBW.out⟩
        · have g1 : (200 : Int) < (x1.size : Int) := by omega
          rw [decide_eq_false h1, Bool.false_and, Bool.false_and] at hE
          subst hE
          go_wp2
          go_ret
          exact ⟨rfl, HBW.out⟩
      · obtain rfl : k = l.length := by omega
        have hr : R = false := by rw [E.out, List.drop_length]; rfl
        subst hr
        go_wp2
        go_ret
        exact ⟨rfl, BW.out⟩
  · have hr : R = true := by rw [hR]; unfold shortB10; rw [decide_eq_false h60, Bool.false_and]; rfl
    subst hr
    have h60' : (30 : Int) < (l.length : Int) := by omega
    clear hR
    go_enter Tryz.func22, Tryz.ntmps22
    go_wp2
    go_ret
    exact ⟨rfl, RowKit.Below.refl _ _⟩
theorem much_any (A : Option Addr) (c : Nat) (l : List OpP) (w : World) (hx : Rd w A (l.flatMap opP)) (ho : ∀ o ∈ l, OpIn w o) : Calls Tryz.prog 12 #[.slice A l.length c] w fun e w' => e = .returned (.bool (!fewOpsB l)) ∧ Below w.heap.size w w' := by
  obtain ⟨R, hR⟩ : ∃ R, R = !fewOpsB l := ⟨_, rfl⟩
  rw [← hR]
  by_cases h60 : l.length ≤ 60
  · have hst : R = !(l.drop 0).all fun o => smallB o.ls := by
      rw [hR]; unfold fewOpsB; rw [decide_eq_true h60, Bool.true_and, List.drop_zero]
    have h60' : ¬ (60 : Int) < (l.length : Int) := by omega
    have HST := Lib.hid hst
    have HOI := Lib.hid ho
    clear hst hR ho
    go_enter Tryz.func12, Tryz.ntmps12
    go_wp2
    go_loopw [10] (fun s10 wr => ∃ k : Nat, s10 = .int .i64 k ∧ k ≤ l.length ∧ Aside (RowKit.Below w.heap.size w wr) ∧ Aside (R = !(l.drop k).all fun o => smallB o.ls)) (fun s10 _ => l.length - (intOf s10).toNat)
    case atStart => exact ⟨0, rfl, by omega, RowKit.Below.refl _ _, HST.out⟩
    case round =>
      obtain ⟨k, rfl, hk, BW, E⟩ := hrel
      have k0 : (0 : Int) ≤ (k : Int) := by omega
      by_cases hlt : k < l.length
      · have k1 : (k : Int) < (l.length : Int) := by omega
        obtain ⟨y, hy⟩ : ∃ y, l[k]? = some y := ⟨_, List.getElem?_eq_getElem hlt⟩
        obtain ⟨b, off, rfl, hcl⟩ := (hx.below BW.out).flat opP_len (by decide) hy
        have d0 := hcl 0 _ rfl; have d1 := hcl 1 _ rfl; have d2 := hcl 2 _ rfl
        rw [Nat.add_zero] at d0
        have hmem := List.mem_of_getElem? hy
        have hbb := BW.out.alloc BW.out.size (.cells #[.bool y.cut, .int .u64 (y.ref : Nat), .slice y.A y.ls.length y.c] 36)
        have hbg := big_any y.A y.c y.ls _ ((HOI.out y hmem).2.1.below hbb)
        have hE := E.out
        have hdr : l.drop k = y :: l.drop (k + 1) := by
          obtain ⟨h1, h2⟩ := List.getElem?_eq_some_iff.1 hy
          rw [List.drop_eq_getElem_cons h1, h2]
        rw [hdr, List.all_cons] at hE
        have HBB := Lib.hid hbb
        have HBG := Lib.hid hbg
        obtain ⟨m, hm⟩ : ∃ m, m = y.ls.length := ⟨_, rfl⟩
        rw [← hm] at d2 HBG HBB
        clear hcl hy hm hmem hbb hbg hdr E
        cases hsb : smallB y.ls with
        | true =>
          rw [hsb] at HBG hE
          have HE := Lib.hid (show R = !(l.drop (k + 1)).all fun o => smallB o.ls from hE)
          clear hE hsb
          go_wp2_with (first
            | (go_at_call 13; refine HBG.out.mono ?_; rintro e w2 ⟨rfl, hb2⟩; have HB2 := Lib.hid (HBB.out.trans (hb2.mono HBB.out.size)); clear hb2)
            | fail)
          go_roundw
          case rel => exact ⟨k + 1, by go_num, by omega, (show Aside _ from HB2.out), (show Aside _ from HE.out)⟩
          case measure => simp [intOf]; omega
        | false =>
          rw [hsb] at HBG hE
          rw [Bool.false_and] at hE
          subst hE
          clear hsb
          go_wp2_with (first
            | (go_at_call 13; refine HBG.out.mono ?_; rintro e w2 ⟨rfl, hb2⟩; have HB2 := Lib.hid (HBB.out.trans (hb2.mono HBB.out.size)); clear hb2)
            | fail)
          go_ret
          exact ⟨rfl, HB2.out⟩
      · obtain rfl : k = l.length := by omega
        have hr : R = false := by rw [E.out, List.drop_length]; rfl
        subst hr
        go_wp2
        go_ret
        exact ⟨rfl, BW.out⟩
  · have hr : R = true := by rw [hR]; unfold fewOpsB; rw [decide_eq_false h60, Bool.false_and]; rfl
    subst hr
    have h60' : (60 : Int) < (l.length : Int) := by omega
    clear hR
    go_enter Tryz.func12, Tryz.ntmps12
    go_wp2
    go_ret
    exact ⟨rfl, RowKit.Below.refl _ _⟩
end
end
section
set_option linter.unusedVariables false
set_option linter.unusedSimpArgs false
open Go.RowKit
section
set_option maxHeartbeats 3200000
set_option maxRecDepth 100000
theorem and1_any (x y : Bool) (W : World) : Calls Tryz.prog 60 #[.bool x, .bool y] W fun e w' => e = .returned (.bool (x && y)) ∧ w' = W := by
  cases x
  all_goals
    go_enter Tryz.func60, Tryz.ntmps60
    go_wp2
    go_ret
    exact ⟨rfl, rfl⟩
theorem or1_any (x y : Bool) (W : World) : Calls Tryz.prog 61 #[.bool x, .bool y] W fun e w' => e = .returned (.bool (x || y)) ∧ w' = W := by
  cases x
  all_goals
    go_enter Tryz.func61, Tryz.ntmps61
    go_wp2
    go_ret
    exact ⟨rfl, rfl⟩
theorem less1_any (x y : Bool) (W : World) : Calls Tryz.prog 62 #[.bool x, .bool y] W fun e w' => e = .returned (.bool (x && !y)) ∧ w' = W := by
  cases x
  all_goals
    go_enter Tryz.func62, Tryz.ntmps62
    go_wp2
    go_ret
    exact ⟨rfl, rfl⟩
/-- What is answered: a list of the call's own. -/
def NumsO (w : World) (l : List Nat) (e : Ending) (w' : World) : Prop := ∃ v, e = .returned v ∧ w'.ownsRow w.heap.size 23 1 v l.length (l.map Un) ∧ Below w.heap.size w w'
theorem nand_any (A B : Option Addr) (ca cb : Nat) (l m : List Nat) (w : World) (hx : Rd w A (l.map Un)) (hy : Rd w B (m.map Un)) (hl : l.length ≤ 1000000) (hm : m.length ≤ 1000000) :
    Calls Tryz.prog 32 #[.slice A l.length ca, .slice B m.length cb] w (NumsO w (andN l m)) := by
  have hT := tog_any 60 (fun x y => x && y) (enters_of Tryz.func60 (by kernel_rfl) rfl) and1_any A B ca cb l m w hx hy hl hm
  rw [tog_and] at hT
  have HT := Lib.hid hT; clear hT hx hy
  unfold NumsO
  generalize andN l m = R at HT ⊢
  go_enter Tryz.func32, Tryz.ntmps32
  go_wp2_with (first
    | (go_at_call 59; refine HT.out.mono ?_; rintro e w1 ⟨v, rfl, ho, hb⟩; have HO := Lib.hid ho; have HB := Lib.hid hb; clear ho hb)
    | fail)
  go_ret
  exact ⟨_, rfl, HO.out, HB.out⟩
theorem nor_any (A B : Option Addr) (ca cb : Nat) (l m : List Nat) (w : World) (hx : Rd w A (l.map Un)) (hy : Rd w B (m.map Un)) (hl : l.length ≤ 1000000) (hm : m.length ≤ 1000000) :
    Calls Tryz.prog 33 #[.slice A l.length ca, .slice B m.length cb] w (NumsO w (orN l m)) := by
  have hT := tog_any 61 (fun x y => x || y) (enters_of Tryz.func61 (by kernel_rfl) rfl) or1_any A B ca cb l m w hx hy hl hm
  rw [tog_or] at hT
  have HT := Lib.hid hT; clear hT hx hy
  unfold NumsO
  generalize orN l m = R at HT ⊢
  go_enter Tryz.func33, Tryz.ntmps33
  go_wp2_with (first
    | (go_at_call 59; refine HT.out.mono ?_; rintro e w1 ⟨v, rfl, ho, hb⟩; have HO := Lib.hid ho; have HB := Lib.hid hb; clear ho hb)
    | fail)
  go_ret
  exact ⟨_, rfl, HO.out, HB.out⟩
theorem nless_any (A B : Option Addr) (ca cb : Nat) (l m : List Nat) (w : World) (hx : Rd w A (l.map Un)) (hy : Rd w B (m.map Un)) (hl : l.length ≤ 1000000) (hm : m.length ≤ 1000000) :
    Calls Tryz.prog 34 #[.slice A l.length ca, .slice B m.length cb] w (NumsO w (lessN l m)) := by
  have hT := tog_any 62 (fun x y => x && !y) (enters_of Tryz.func62 (by kernel_rfl) rfl) less1_any A B ca cb l m w hx hy hl hm
  rw [tog_less] at hT
  have HT := Lib.hid hT; clear hT hx hy
  unfold NumsO
  generalize lessN l m = R at HT ⊢
  go_enter Tryz.func34, Tryz.ntmps34
  go_wp2_with (first
    | (go_at_call 59; refine HT.out.mono ?_; rintro e w1 ⟨v, rfl, ho, hb⟩; have HO := Lib.hid ho; have HB := Lib.hid hb; clear ho hb)
    | fail)
  go_ret
  exact ⟨_, rfl, HO.out, HB.out⟩
end
end
end Go.Proofs.YtjgappbomohlcaaGreatDoor
