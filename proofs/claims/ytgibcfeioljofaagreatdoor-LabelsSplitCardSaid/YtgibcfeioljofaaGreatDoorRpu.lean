/-
  Labels with one more, in its place: the plain answers' own.
-/
import Derived.Test.YtgibcfeioljofaaGreatDoorRg
import Derived.Test.YtgibcfeioljofaaGreatDoorPs
namespace Go.Proofs.YtgibcfeioljofaaGreatDoor
set_option linter.unusedVariables false
set_option linter.unusedSimpArgs false
open Go.RowKit
def lenV : Value → Nat
  | .slice _ n _ => n
  | _ => 0
theorem run_bound1 {P : Program} (w : World) (k cap : Nat) (c : BoundsCode) (h : k ≤ cap) : (Instr.sliceBound (.int .i64 (k : Nat)) cap c).run P w = .ok k w := by
  simp [Instr.sliceBound, asIntOf, h]
/-- x[1:] of labels. -/
theorem run_cut1 {P : Program} (w : World) (ty e : TypeId) (b off n c : Nat) (hu : P.underlying ty = some (.slice e)) (hs : (P.info? e).map (·.size) = some 2) (hc : n ≤ c) :
    ∃ A', (Instr.sliceAt ty (.slice (some ⟨b, off, none⟩) (n + 1) (c + 1)) (some (.int .i64 1)) none none).run P w = .ok (.slice A' n c) w ∧ ∀ (W : World) (l : List Lb), l.length ≤ c + 1 → Rd W (some ⟨b, off, none⟩) (lcells l) → Rd W A' (lcells (l.drop 1)) := by
  refine ⟨if c + 1 = 1 then some ⟨b, off, none⟩ else some ⟨b, off + 2, none⟩, ?_, fun W l hl hr => ?_⟩
  · cases hq : P.info? e with
    | none => simp [hq] at hs
    | some i =>
      have hsz : i.size = 2 := by simpa [hq] using hs
      have b1 := fun cd => run_bound1 (P := P) w 1 (n + 1) cd (by omega)
      have b2 := fun cd => run_bound1 (P := P) w (n + 1) (c + 1) cd (by omega)
      have b1' : ∀ cd, (Instr.sliceBound (.int .i64 1) (n + 1) cd).run P w = .ok 1 w := b1
      have b3 : ∀ cd, (Instr.sliceBound (.int .i64 1) (c + 1) cd).run P w = .ok 1 w := fun cd => run_bound1 (P := P) w 1 (c + 1) cd (by omega)
      simp [Instr.sliceAt, Instr.slice, Instr.sliceBounds, run_underlying hu, sizeOf, typeInfo, hq, hsz, b1', b2, b3, hc, Addr.add]
  · split
    · rename_i e1
      rw [List.drop_eq_nil_of_le (by omega)]
      exact Rd.nil _ _
    · exact rd_drop2 (k := 1) hr b off rfl
theorem wpList_cut1 {P : Program} {w : World} {ops : Array Oper} {rest : List Oper} {o : Oper} {a : Act} {Q : Exit → Act → World → Prop} (hgd : o.guard = none) (ty : TypeId) (x lo : Operand)
    (ho : o.op = .slice ty x (some lo) none none) (e : TypeId) (hu : P.underlying ty = some (.slice e)) (hs : (P.info? e).map (·.size) = some 2) (b off n c : Nat) (hx : a.eval x = .slice (some ⟨b, off, none⟩) (n + 1) (c + 1)) (hlo : a.eval lo = .int .i64 1) (hc : n ≤ c)
    (hK : ∀ A', (∀ (W : World) (l : List Lb), l.length ≤ c + 1 → Rd W (some ⟨b, off, none⟩) (lcells l) → Rd W A' (lcells (l.drop 1))) → wpList P ops Q rest (a.put o.dst (.slice A' n c)) w) : wpList P ops Q (o :: rest) a w := by
  obtain ⟨A', hr, hv⟩ := run_cut1 (P := P) w ty e b off n c hu hs hc
  refine wpList_plain hgd fun K hK' => ?_
  unfold Oper.wp
  simp only [execOp, ho, hx, Option.map_none, Option.map_some, hlo, Sem.run_bind, Sem.run_pure, hr, Result.andThen_ok]
  exact hK' _ _ (hK A' hv)
/-- append of labels that came from anywhere onto a row of the call's own. -/
theorem wpList_append_lb {w : World} {ops : Array Oper} {rest : List Oper} {o : Oper} {a : Act} {Q : Exit → Act → World → Prop} (hgd : o.guard = none) (s x : Operand)
    (ho : o.op = .call { callee := .builtin .append, args := #[s, x], argTypes := #[23, 23] }) (hty : o.type = 23)
    (base : Nat) (v : Value) (xs : List Lb) (hs : a.eval s = v) (hown : w.ownsRow base 26 2 v xs.length (lcells xs))
    (A : Option Addr) (c : Nat) (ys : List Lb) (hx : a.eval x = .slice A ys.length c) (hy : Rd w A (lcells ys))
    (hl : xs.length + ys.length ≤ 1000000) (hbase : base ≤ w.heap.size)
    (h : ∀ v' w', w'.ownsRow base 26 2 v' (xs ++ ys).length (lcells (xs ++ ys)) → w.grownBy w' v.ownBlock → wpList Tryz.prog ops Q rest (a.put o.dst v') w') : wpList Tryz.prog ops Q (o :: rest) a w := by
  obtain ⟨i0, hi, hz0, hz1, hz2⟩ := info_parts infoLb
  rw [List.length_append, lcells_append] at h
  cases A with
  | some ad =>
    exact wpList_append_own w hgd s x 23 ho base 26 i0 (.agg #[.string ⟨#[]⟩, .string ⟨#[]⟩]) 2 32 Tryz.underlying23 hi hz0 hz1 hz2 rfl (by decide) v xs.length (lcells xs) hs hown ad ys.length c (lcells ys) hx (lcells_len ys) (rd_cells hy) (lcells_one' ys) (by unfold maxLen; omega) (by omega) hbase (fun v' w' a b _ => h v' w' a b)
  | none =>
    obtain rfl := lb_nil hy
    have hrun := run_append_none (P := Tryz.prog) base 23 o.type 26 i0 2 Tryz.underlying23 hi v xs.length c (lcells xs) hown
    refine wpList_plain hgd fun K hK => ?_
    unfold Oper.wp execOp
    simp only [ho, resolve, invoke, builtin, Sem.run_bind, Sem.run_pure, Result.andThen_ok, List.map_toArray, List.map_cons, List.map_nil, hs, hx, List.length_nil, hrun]
    exact hK _ _ (h v w (by simpa [lcells] using hown) ⟨rfl, rfl, rfl, Nat.le_refl _, fun _ _ _ => rfl⟩)
theorem putP_len (x : Lb) (l : List Lb) : (putP x l).length = l.length + 1 := by rw [(putP_perm x l).length_eq]; rfl
section
set_option maxHeartbeats 1600000
set_option maxRecDepth 100000
theorem put_any (A : Option Addr) (c : Nat) (l : List Lb) (x1 x2 : ByteArray) (w : World) (hx : Rd w A (lcells l)) (hc : l.length ≤ c) (hl : l.length ≤ 100000) :
    Calls Tryz.prog 67 #[.slice A l.length c, .agg #[.string x1, .string x2]] w fun e w' => ∃ A' c', e = .returned (.slice A' (putP (x1, x2) l).length c') ∧
      w'.ownsRow w.heap.size 26 2 (.slice A' (putP (x1, x2) l).length c') (putP (x1, x2) l).length (lcells (putP (x1, x2) l)) ∧ Below w.heap.size w w' := by
  obtain ⟨R, hR⟩ : ∃ R, R = putP (x1, x2) l := ⟨_, rfl⟩
  rw [← hR]
  have HR := Lib.hid hR; clear hR
  have hb0 : RowKit.Below w.heap.size w (w.alloc (.cells #[.string x1, .string x2] 26)) := (RowKit.Below.refl _ w).alloc (Nat.le_refl _) _
  have hx0 := hx.alloc (.cells #[.string x1, .string x2] 26)
  have hbx := heap_alloc_new w (.cells #[.string x1, .string x2] 26)
  have hsz : (w.alloc (.cells #[.string x1, .string x2] 26)).heap.size = w.heap.size + 1 := World.size_alloc _ _
  have hown1 : ((w.alloc (.cells #[.string x1, .string x2] 26)).alloc (.cells #[] 26)).ownsRow (w.heap.size + 1) 26 2 (.slice (some ⟨w.heap.size + 1, 0, none⟩) 0 0) 0 [] :=
    own_whole (l := []) (Nat.le_refl _) (by decide) (by have := heap_alloc_new (w.alloc (.cells #[.string x1, .string x2] 26)) (.cells #[] 26); rwa [hsz] at this)
  have hb1 : RowKit.Below (w.heap.size + 1) (w.alloc (.cells #[.string x1, .string x2] 26)) ((w.alloc (.cells #[.string x1, .string x2] 26)).alloc (.cells #[] 26)) := (RowKit.Below.refl _ _).alloc (by rw [hsz]; exact Nat.le_refl _) _
  obtain ⟨w0, hw0⟩ : ∃ w0, w0 = w.alloc (.cells #[.string x1, .string x2] 26) := ⟨_, rfl⟩
  rw [← hw0] at hb0 hx0 hbx hsz hown1 hb1
  have HW0 := Lib.hid hw0
  have HB0 := Lib.hid hb0; clear hb0
  have HX0 := Lib.hid hx0; clear hx0 hx
  have HO1 := Lib.hid hown1; clear hown1
  have HB1 := Lib.hid hb1; clear hb1
  have HSZ := Lib.hid hsz; clear hsz
  have hbox : ∀ W, Below (w.heap.size + 1) w0 W → W.cell? ⟨w.heap.size, 0, none⟩ = some (.string x1) ∧ W.cell? ⟨w.heap.size, 1, none⟩ = some (.string x2) := fun W hW => by
    have hh : W.heap[w.heap.size]? = some (.cells #[.string x1, .string x2] 26 (0, 0)) := (hW.block _ (by omega)).trans hbx
    exact ⟨cell_blk hh 0, cell_blk hh 1⟩
  have HBX := Lib.hid hbox; clear hbox hbx
  go_enter Tryz.func67, Tryz.ntmps67
  go_wp2
  rw [← HW0.out]
  clear hw0
  go_loopw [0, 5] (fun s0 s5 wr => ∃ (hd tl : List Lb) (A1 : Option Addr) (c1 : Nat), s0 = .slice A1 tl.length c1 ∧ tl.length ≤ c1 ∧ hd.length + tl.length = l.length ∧ Aside (Rd w0 A1 (lcells tl)) ∧ Aside (wr.ownsRow (w.heap.size + 1) 26 2 s5 hd.length (lcells hd)) ∧ Aside (Below (w.heap.size + 1) w0 wr) ∧ Aside (R = hd ++ putP (x1, x2) tl)) (fun s0 _ _ => lenV s0)
  case atStart => exact ⟨[], l, A, c, rfl, hc, by simp, HX0.out, HO1.out, HB1.out, HR.out⟩
  case round =>
    obtain ⟨hd, tl, A1, c1, rfl, hc1, hlen, RD, OW, BW, E⟩ := hrel
    obtain ⟨A6, c6, hv6, -⟩ := own_rdL OW.out
    subst hv6
    have hrd : Rd wr A1 (lcells tl) := RD.out.below (by rw [HSZ.out]; exact BW.out)
    obtain ⟨p0, p1⟩ := HBX.out _ BW.out
    have hsw : w.heap.size + 1 ≤ wr.heap.size := by have := BW.out.size; rw [HSZ.out] at this; exact this
    have HSW := Lib.hid hsw; clear hsw
    -- what stands behind the loop
    by_cases hz : 0 < tl.length
    · obtain ⟨y, t, rfl⟩ : ∃ y t, tl = y :: t := by cases tl with
        | nil => exact absurd hz (by simp)
        | cons y t => exact ⟨y, t, rfl⟩
      obtain ⟨b, off, rfl, d0, d1⟩ := lb_at hrd (k := 0) (by simp)
      rw [Nat.zero_mul, Nat.add_zero] at d0 d1
      simp only [List.getElem_cons_zero] at d0 d1
      obtain ⟨y1, y2⟩ := y
      simp only at d0 d1
      obtain ⟨c2, rfl⟩ : ∃ c2, c1 = c2 + 1 := ⟨c1 - 1, by simp at hc1; omega⟩
      simp only [List.length_cons] at *
      have q1 : Op.bytesLess y1.toList x1.toList = decide (bl y1 < bl x1) := by rw [less_bytes, toList_bl, toList_bl]
      have g0 : (0 : Int) < (t.length : Int) + 1 := by omega
      by_cases hlt : bl y1 < bl x1
      · rw [decide_eq_true hlt] at q1
        have hE : R = (hd ++ [(y1, y2)]) ++ putP (x1, x2) t := by rw [E.out, putP, if_pos hlt, List.append_assoc]; rfl
        have HE := Lib.hid hE; clear hE E hlt hrd
        go_wp2_with fail
        go_quiet (fail)
        go_wp2_with (first
          | (at_builtin; (refine wpList_append_lb rfl _ _ rfl rfl (w.heap.size + 1) _ hd rfl (OW.out.alloc _) _ 1 [(y1, y2)] rfl (rd_row _ [.string y1, .string y2] 26) (by simp; omega) (by simp; have := HSW.out; omega) ?_; intro v3 w3 own3 grow3))
          | (refine wpList_cut1 (o := ⟨some 26, _, _, _, _, _⟩) ?_ 23 (.tmp 25) (.const (.int .i64 1)) ?_ 26 Tryz.underlying23 (by kernel_rfl) b off t.length c2 ?_ ?_ (by omega) ?_; rfl; rfl; rfl; rfl; intro A7 hA7)
          | fail)
        have hb3 : RowKit.Below (w.heap.size + 1) w0 w3 := ((show RowKit.Below (w.heap.size + 1) w0 _ from below_drewN BW.out _).alloc HSW.out (.cells #[.string y1, .string y2] 26)).grown grow3 (by have := HSW.out; simp; omega) (fun k h => (OW.out.lt k h).1)
        have HB3 := Lib.hid hb3; clear hb3 grow3
        have HO3 := Lib.hid own3; clear own3
        have hr7 := hA7 w0 ((y1, y2) :: t) (by simp; omega) RD.out
        have HR7 := Lib.hid hr7; clear hr7 hA7
        go_roundw
        case rel => exact ⟨hd ++ [(y1, y2)], t, A7, c2, rfl, by omega, by simp; omega, (show Aside _ from HR7.out), (show Aside _ from HO3.out), (show Aside _ from HB3.out), (show Aside _ from HE.out)⟩
        case measure => simp [lenV]
      · rw [decide_eq_false hlt] at q1
        have hE : R = (hd ++ [(x1, x2)]) ++ ((y1, y2) :: t) := by rw [E.out, putP, if_neg hlt, List.append_assoc]; rfl
        have HE := Lib.hid hE; clear hE E hlt
        have HRD := Lib.hid hrd; clear hrd
        go_wp2_with fail
        go_quiet (fail)
        go_wp2_with (first
          | (at_builtin; (refine wpList_append_lb rfl _ _ rfl rfl (w.heap.size + 1) _ hd rfl (OW.out.alloc _) _ 1 [(x1, x2)] rfl (rd_row _ [.string x1, .string x2] 26) (by simp; omega) (by simp; have := HSW.out; omega) ?_; intro v3 w3 own3 grow3; have hb3 : RowKit.Below (w.heap.size + 1) w0 w3 := ((show RowKit.Below (w.heap.size + 1) w0 _ from below_drewN BW.out _).alloc HSW.out (.cells #[.string x1, .string x2] 26)).grown grow3 (by have := HSW.out; simp; omega) (fun k h => (OW.out.lt k h).1); have HB3 := Lib.hid hb3; clear hb3 grow3; have HO3 := Lib.hid own3; clear own3))
          | (at_builtin; (refine wpList_append_lb rfl _ _ rfl rfl (w.heap.size + 1) _ (hd ++ [(x1, x2)]) rfl HO3.out _ _ ((y1, y2) :: t) rfl (RD.out.below (by rw [HSZ.out]; exact HB3.out)) (by simp; omega) (by have := HB3.out.size; rw [HSZ.out] at this; exact this) ?_; intro v4 w4 own4 grow4))
          | fail)
        have hb4 : RowKit.Below (w.heap.size + 1) w0 w4 := HB3.out.grown grow4 (by have := HB3.out.size; rw [HSZ.out] at this; exact this) (fun k h => (HO3.out.lt k h).1)
        rw [← HE.out] at own4
        go_ret
        obtain ⟨A', c', e, -⟩ := own_rdL own4
        subst e
        exact ⟨A', c', rfl, own4.lower (by omega), HB0.out.trans (hb4.mono (by omega))⟩
    · have g0 : ¬ (0 : Int) < (tl.length : Int) := by omega
      obtain rfl : tl = [] := List.eq_nil_of_length_eq_zero (by omega)
      have hE : R = (hd ++ [(x1, x2)]) ++ [] := by rw [E.out, putP, List.append_nil]
      have HE := Lib.hid hE; clear hE E
      have HRD := Lib.hid hrd; clear hrd
      simp only [List.length_nil] at *
      go_wp2_with fail
      go_quiet (fail)
      go_wp2_with (first
        | (at_builtin; (refine wpList_append_lb rfl _ _ rfl rfl (w.heap.size + 1) _ hd rfl (OW.out.alloc _) _ 1 [(x1, x2)] rfl (rd_row _ [.string x1, .string x2] 26) (by simp; omega) (by simp; have := HSW.out; omega) ?_; intro v3 w3 own3 grow3; have hb3 : RowKit.Below (w.heap.size + 1) w0 w3 := ((show RowKit.Below (w.heap.size + 1) w0 _ from below_drewN BW.out _).alloc HSW.out (.cells #[.string x1, .string x2] 26)).grown grow3 (by have := HSW.out; simp; omega) (fun k h => (OW.out.lt k h).1); have HB3 := Lib.hid hb3; clear hb3 grow3; have HO3 := Lib.hid own3; clear own3))
        | (at_builtin; (refine wpList_append_lb rfl _ _ rfl rfl (w.heap.size + 1) _ (hd ++ [(x1, x2)]) rfl HO3.out _ _ [] rfl (Rd.nil _ _) (by simp; omega) (by have := HB3.out.size; rw [HSZ.out] at this; exact this) ?_; intro v4 w4 own4 grow4))
        | fail)
      have hb4 : RowKit.Below (w.heap.size + 1) w0 w4 := HB3.out.grown grow4 (by have := HB3.out.size; rw [HSZ.out] at this; exact this) (fun k h => (HO3.out.lt k h).1)
      rw [← HE.out] at own4
      go_ret
      obtain ⟨A', c', e, -⟩ := own_rdL own4
      subst e
      exact ⟨A', c', rfl, own4.lower (by omega), HB0.out.trans (hb4.mono (by omega))⟩
end
end Go.Proofs.YtgibcfeioljofaaGreatDoor
