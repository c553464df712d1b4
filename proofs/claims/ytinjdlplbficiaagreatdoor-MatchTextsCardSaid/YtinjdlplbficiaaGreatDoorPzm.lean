/-
  The plain answers' runes of a text as a list; whether a rune is in a set.
  To which places of a text one comes by a part of a pattern, as the plain answers reckon it.
  To which places of a text one comes by the part that takes nothing, and by one of two parts.
  To which places of a text one comes by one of two parts.
  To which places of a text one comes by a set.
-/
import Derived.Test.YtinjdlplbficiaaGreatDoorPza
import Derived.Test.YtinjdlplbficiaaGreatDoorRe
namespace Go.Proofs.YtinjdlplbficiaaGreatDoor
set_option linter.unusedVariables false
set_option linter.unusedSimpArgs false
section
set_option linter.unusedVariables false
set_option linter.unusedSimpArgs false
open Go.RowKit
def ruC (l : List Int) : List Value := l.map fun c => .int .i32 c
theorem infoRune : (Tryz.prog.info? 21).map (fun i => (i.zero, i.size, i.bytes)) = some (some (.int .i32 0), 1, 4) := by kernel_rfl
structure RuRel (w wr : World) (s : ByteArray) (v : Value) (pos : Nat) (done : List Int) : Prop where
  own : wr.ownsRow (w.heap.size + 1) 21 1 v done.length (ruC done)
  it : wr.heap[w.heap.size]? = some (.stringIter s pos)
  below : RowKit.Below w.heap.size w wr
  all : done ++ runesB ((bl s).drop pos) = runesB (bl s)
  few : done.length ≤ pos
  le : pos ≤ s.size
theorem RuRel.start (w : World) (s : ByteArray) : RuRel w (w.iter s 0) s (.slice none 0 0) 0 [] := by
  have h := World.iter_heap w s 0
  refine ⟨⟨rfl, .inl ⟨rfl, rfl⟩⟩, by simpa using h, (RowKit.Below.refl _ w).alloc (Nat.le_refl _) _, by simp, Nat.le_refl _, Nat.zero_le _⟩
theorem RuRel.next {w wr w2 w3 : World} {s : ByteArray} {v v' : Value} {pos wd : Nat} {done : List Int} {q : Int} {x : Obj} (k : RuRel w wr s v pos done) (h2 : w2 = wr.iterAt w.heap.size s (pos + wd)) (hp : pos < s.size) (hd : dL ((bl s).drop pos) = (((dL ((bl s).drop pos)).1), wd)) (hw : 1 ≤ wd) (hle : pos + wd ≤ s.size)
    (hq : ((dL ((bl s).drop pos)).1 : Int) = q) (ho : w3.ownsRow (w.heap.size + 1) 21 1 v' (done.length + 1) (ruC done ++ [.int .i32 q])) (hg : (w2.alloc x).grownBy w3 v.ownBlock) : RuRel w w3 s v' (pos + wd) (done ++ [q]) := by
  have hi2 : w2.heap[w.heap.size]? = some (.stringIter s (pos + wd)) := by rw [h2]; exact Lib.iterAt_heap wr _ s pos (pos + wd) k.it
  have hs2 : w2.heap.size = wr.heap.size := by rw [h2]; exact Lib.iterAt_size ..
  have hb2 : RowKit.Below w.heap.size w w2 := by rw [h2]; exact Lib.below_iterAt k.below (Nat.le_refl _) s (pos + wd)
  have hl := blk_lt k.it
  have hne : v.ownBlock ≠ some w.heap.size := fun e => by have := (k.own.lt _ e).1; omega
  have mg : Mv (fun i => v.ownBlock = some i) (w2.alloc x) w3 := (Mv.refl _ _).grown hg fun _ _ h => h
  refine ⟨by rw [List.length_append]; unfold ruC at *; rw [List.map_append]; exact ho, ?_, ?_, ?_, by rw [List.length_append]; have := k.few; simp; omega, hle⟩
  · refine (mg.block _ (by rw [World.size_alloc]; omega) hne).trans ?_
    rw [Below.heap_alloc _ _ _ (by omega)]; exact hi2
  · refine (hb2.alloc (by have := k.below.size; omega) x).trans ((mg.belowB (B := w.heap.size) (by rw [World.size_alloc]; omega) fun i hi e => by have := (k.own.lt _ e).1; omega))
  · rw [← k.all, List.append_assoc]
    congr 1
    rw [runesB_step (drop_ne hp), hq, List.drop_drop]
    have e : (dL ((bl s).drop pos)).2 = wd := by rw [hd]
    rw [e]
    rfl
section
set_option maxHeartbeats 3200000
set_option maxRecDepth 100000
theorem rrunes_any (s : ByteArray) (w : World) (hl : s.size ≤ 1000) : Calls Tryz.prog 86 #[.string s] w fun e w' => ∃ A c, e = .returned (.slice A (runesB (bl s)).length c) ∧ Rd w' A (ruC (runesB (bl s))) ∧ (runesB (bl s)).length ≤ s.size ∧ RowKit.Below w.heap.size w w' := by
  go_enter Tryz.func86, Tryz.ntmps86
  go_wp2
  go_loopw [3] (fun s3 wr => ∃ (v : Value) (pos : Nat) (done : List Int), v = s3 ∧ Aside (RuRel w wr s v pos done)) (fun _ wr => s.size - wr.iterPos w.heap.size)
  case atStart => exact ⟨_, 0, [], rfl, RuRel.start w s⟩
  case round =>
    obtain ⟨v, pos, done, rfl, HK⟩ := hrel
    have hit := HK.out.it
    have hfew := HK.out.few
    have hle := HK.out.le
    by_cases hp : pos < s.size
    · have hne : (bl s).drop pos ≠ [] := drop_ne hp
      have hdd : dL ((bl s).drop pos) = Utf8.decode s pos := Lib.decodeL_drop s pos
      obtain ⟨c, wd, hcw⟩ : ∃ c wd, dL ((bl s).drop pos) = (c, wd) := ⟨_, _, rfl⟩
      have hwd : 1 ≤ wd := by have := dL_pos ((bl s).drop pos); rw [hcw] at this; exact this
      have hwl : pos + wd ≤ s.size := by have := dL_le hne; rw [hcw, List.length_drop, bl_len] at this; simp only at this; omega
      obtain ⟨w2, hw2⟩ : ∃ w2, w2 = wr.iterAt w.heap.size s (pos + wd) := ⟨_, rfl⟩
      have hnx : ∀ ty, (Instr.next (.pointer (some ⟨w.heap.size, 0, none⟩)) true ty).run Tryz.prog wr = .ok (.tuple #[.bool true, .int .i64 (pos : Nat), .int .i32 (c : Nat)]) w2 := fun ty => by
        rw [Lib.run_next_any_at wr w.heap.size s pos ty hit hp, ← hdd, hcw, hw2]
      have hs2 : w2.heap.size = wr.heap.size := by rw [hw2]; exact Lib.iterAt_size ..
      have how : w2.ownsRow (w.heap.size + 1) 21 1 v done.length (ruC done) := own_moved HK.out.own fun g hg => by
        rw [hw2]; exact Lib.iterAt_other _ _ _ _ _ (by have := (HK.out.own.lt g hg).1; omega)
      have hlt := blk_lt hit
      have hbase : w.heap.size + 1 ≤ w2.heap.size := by omega
      have HQ := Lib.hid (fun (w3 : World) (v' : Value) (x : Obj) ho hg => RuRel.next (w3 := w3) (v' := v') (q := (c : Int)) (x := x) HK.out hw2 hp (by rw [hcw]) hwd hwl (by rw [hcw]) ho hg)
      have HIT := Lib.hid hit; have HWD := Lib.hid hwd; have HP := Lib.hid hp
      have HOW := Lib.hid how
      have hdl : done.length ≤ 1000 := by omega
      clear hne hdd hcw hwd hwl hw2 hs2 how hit
      go_wp2_with (first
        | (at_builtin; (refine wpList_append_g rfl _ _ 141 21 _ 1 4 infoRune Tryz.underlying141 rfl (by decide) rfl (w.heap.size + 1) v done.length (ruC done) rfl (HOW.out.alloc _) _ 1 1 [.int .i32 (c : Int)] rfl (rd_row _ _ 21) rfl (fun u hu => by rw [List.mem_singleton] at hu; subst hu; rfl) (by unfold maxLen; omega) (by omega) (by simp; omega) ?_; intro v4 w5 ho4 hg4; have HO4 := Lib.hid (HQ.out w5 v4 _ ho4 hg4); clear ho4 hg4))
        | fail)
      go_roundw
      case rel => exact ⟨_, _, _, rfl, HO4.out⟩
      case measure =>
        have i1 := HO4.out.it
        have i2 := HIT.out
        have i3 := HWD.out
        have i4 := HP.out
        simp only [World.iterPos, i1, i2]
        omega
    · obtain rfl : pos = s.size := by omega
      have hnx : ∀ ty, (Instr.next (.pointer (some ⟨w.heap.size, 0, none⟩)) true ty).run Tryz.prog wr = .ok (.tuple #[.bool false]) wr := fun ty => Lib.run_next_end_at wr w.heap.size s _ ty hit hp
      have hall : done = runesB (bl s) := by
        have := HK.out.all
        rwa [List.drop_eq_nil_of_le (by rw [bl_len]; exact Nat.le_refl _), runesB_nil, List.append_nil] at this
      have HALL := Lib.hid hall
      have HB := Lib.hid HK.out.below
      have HFW := Lib.hid hfew
      obtain ⟨A, c, rfl, hr, h1, h2⟩ := own_rdg HK.out.own
      have HR := Lib.hid hr
      clear hit hp hall hr
      go_wp2
      go_ret
      exact ⟨A, c, by rw [← HALL.out]; rfl, by rw [← HALL.out]; exact HR.out, by rw [← HALL.out]; exact HFW.out, HB.out⟩
theorem in_any (k a b : Int) (A : Option Addr) (cc : Nat) (sp : Spans) (neg : Bool) (c : Int) (w : World) (hr : Rd w A (spC sp)) (hl : sp.length ≤ 9223372036854775807) :
    Calls Tryz.prog 105 #[.agg #[.int .i64 k, .int .i64 a, .int .i64 b, .slice A sp.length cc, .bool neg], .int .i32 c] w fun e w' => e = .returned (.bool (takesP sp neg c)) ∧ Below w.heap.size w w' := by
  obtain ⟨RES, hRES⟩ : ∃ RES, RES = takesP sp neg c := ⟨_, rfl⟩
  rw [← hRES]
  have hat : ∀ (j : Nat) (h : j < sp.length), (spC sp)[j * 2]? = some (.int .i32 sp[j].1) ∧ (spC sp)[j * 2 + 1]? = some (.int .i32 sp[j].2) := by
    clear hr hl hRES
    induction sp with
    | nil => intro j h; simp at h
    | cons q t ih =>
      intro j h
      cases j with
      | zero => exact ⟨rfl, rfl⟩
      | succ j =>
        have := ih j (by simpa using h)
        rw [show (j + 1) * 2 = j * 2 + 1 + 1 by omega]
        simpa [spC] using this
  have HAT := Lib.hid hat; have HR := Lib.hid hr; have HRES := Lib.hid hRES
  have hbx := heap_alloc_new w (.cells #[.int .i64 k, .int .i64 a, .int .i64 b, .slice A sp.length cc, .bool neg] 172)
  obtain ⟨W, hW⟩ : ∃ W, W = w.alloc (.cells #[.int .i64 k, .int .i64 a, .int .i64 b, .slice A sp.length cc, .bool neg] 172) := ⟨_, rfl⟩
  rw [← hW] at hbx
  have HBW := Lib.hid (show Below w.heap.size w W by rw [hW]; exact (RowKit.Below.refl _ w).alloc (Nat.le_refl _) _)
  have HBX := Lib.hid hbx; have HW := Lib.hid hW
  have n3 := cell_blk hbx 3
  simp only [List.getElem?_toArray, List.getElem?_cons_succ, List.getElem?_cons_zero] at n3
  rw [hW] at n3
  clear hat hr hRES hbx hW
  go_enter Tryz.func105, Tryz.ntmps105
  go_wp2
  go_loopw [10] (fun sk wr => ∃ j : Nat, sk = .int .i64 j ∧ j ≤ sp.length ∧ Aside (Below W.heap.size W wr) ∧ Aside (RES = if inSpans (sp.drop j) c then !neg else neg)) (fun sk _ => sp.length - (intOf sk).toNat)
  case atStart => exact ⟨0, rfl, by omega, (show Aside _ from by rw [← HW.out]; exact RowKit.Below.refl _ _), (show Aside _ from HRES.out)⟩
  case round =>
    obtain ⟨j, rfl, hj, BW, E⟩ := hrel
    have j0 : (0 : Int) ≤ (j : Int) := by omega
    have hbx2 := (BW.out.block _ (blk_lt HBX.out)).trans HBX.out
    have m4 := cell_blk hbx2 4
    simp only [List.getElem?_toArray, List.getElem?_cons_succ, List.getElem?_cons_zero] at m4
    have HB2 := Lib.hid (HBW.out.trans (BW.out.mono HBW.out.size))
    by_cases hlt : j < sp.length
    · have j1 : (j : Int) < (sp.length : Int) := by omega
      obtain ⟨b1, off, rfl, c0⟩ := ((HR.out.below HBW.out).below BW.out) _ _ (HAT.out j hlt).1
      obtain ⟨b', off', e', c1'⟩ := ((HR.out.below HBW.out).below BW.out) _ _ (HAT.out j hlt).2
      injection e' with e'; injection e' with e1 e2 _; subst e1; subst e2
      have c1 : wr.cell? ⟨b1, off + j * 2 + 1, none⟩ = some (.int .i32 sp[j].2) := c1'
      have hE := E.out
      rw [List.drop_eq_getElem_cons hlt] at hE
      unfold inSpans at hE
      rw [List.any_cons] at hE
      clear c1' E hbx2
      generalize sp[j] = x at c0 c1 hE
      obtain ⟨x1, x2⟩ := x
      simp only at c0 c1 hE
      have HBN := Lib.hid (show Below W.heap.size W (wr.alloc (.cells #[.int .i32 x1, .int .i32 x2] 181)) from BW.out.alloc BW.out.size _)
      have m4a : ∀ o, (wr.alloc o).cell? ⟨w.heap.size, 4, none⟩ = some (.bool neg) := fun o => by
        rw [World.cell?_of_block (Below.heap_alloc wr o _ (lt_of_block ((BW.out.block _ (blk_lt HBX.out)).trans HBX.out)))]; exact m4
      have HE := Lib.hid hE
      clear hE
      by_cases h1 : x1 ≤ c
      · by_cases h2 : c ≤ x2
        · have hres : RES = !neg := by have := HE.out; rw [decide_eq_true h1, decide_eq_true h2] at this; simpa using this
          have HRR := Lib.hid hres
          have d1 : decide (x1 ≤ c) = true := decide_eq_true h1
          have d2 : decide (c ≤ x2) = true := decide_eq_true h2
          clear hres
          go_wp2
          go_ret
          rw [HRR.out]
          exact ⟨rfl, HBW.out.trans (HBN.out.mono HBW.out.size)⟩
        · have hres : RES = if inSpans (sp.drop (j + 1)) c then !neg else neg := by have := HE.out; rw [decide_eq_false h2, Bool.and_false, Bool.false_or] at this; exact this
          have HRR := Lib.hid hres
          have d1 : decide (x1 ≤ c) = true := decide_eq_true h1
          have d2 : decide (c ≤ x2) = false := decide_eq_false h2
          clear hres
          go_wp2
          go_roundw
          case rel => exact ⟨j + 1, by go_num, by omega, (show Aside _ from HBN.out), (show Aside _ from HRR.out)⟩
          case measure => simp [intOf]; omega
      · have hres : RES = if inSpans (sp.drop (j + 1)) c then !neg else neg := by have := HE.out; rw [decide_eq_false h1, Bool.false_and, Bool.false_or] at this; exact this
        have HRR := Lib.hid hres
        have d1 : decide (x1 ≤ c) = false := decide_eq_false h1
        clear hres
        go_wp2
        go_roundw
        case rel => exact ⟨j + 1, by go_num, by omega, (show Aside _ from HBN.out), (show Aside _ from HRR.out)⟩
        case measure => simp [intOf]; omega
    · obtain rfl : j = sp.length := by omega
      have hres : RES = neg := by have := E.out; rw [List.drop_length] at this; exact this
      have HRR := Lib.hid hres
      clear hres E hbx2
      go_wp2
      go_ret
      rw [HRR.out]
      exact ⟨rfl, HB2.out⟩
end
end
section
set_option linter.unusedVariables false
set_option linter.unusedSimpArgs false
open Go.RowKit
/-- The parts of a pattern, to be read. -/
structure TrI (w : World) (p : Nat) (N : List Nd) : Prop where
  of : ∃ (us : List Value) (A : Option Addr) (c : Nat), w.cell? ⟨p, 3, none⟩ = some (.slice A N.length c) ∧ us.length = N.length ∧ Rd w A (ndsC us N) ∧
    ∀ (i : Nat) (u : Value) (a : Nd), us[i]? = some u → N[i]? = some a → ∃ A' c', u = .slice A' a.sp.length c' ∧ Rd w A' (spC a.sp) ∧ a.sp.length ≤ 9223372036854775807
theorem cell_low {w w' : World} {a : Addr} {v : Value} (h : w.cell? a = some v) (m : Below w.heap.size w w') : w'.cell? a = some v := by
  rw [World.cell?_of_block (m.block _ (World.block_lt_of_cell? w _ h))]; exact h
theorem TrI.below {w w' : World} {p : Nat} {N : List Nd} (h : TrI w p N) (m : Below w.heap.size w w') : TrI w' p N := by
  obtain ⟨us, A, c, h1, h2, h3, h4⟩ := h.of
  exact ⟨us, A, c, cell_low h1 m, h2, h3.below m, fun i u a hu ha => by
    obtain ⟨A', c', e, k, l⟩ := h4 i u a hu ha
    exact ⟨A', c', e, k.below m, l⟩⟩
theorem nds_at : ∀ (us : List Value) (N : List Nd), us.length = N.length → ∀ (i : Nat) (u : Value) (n : Nd), us[i]? = some u → N[i]? = some n → ∀ k : Nat, k < 5 → (ndsC us N)[i * 5 + k]? = (ndC u n)[k]?
  | [], [], _, i, u, n, hu, _, k, _ => by simp at hu
  | u0 :: us, n0 :: N, h, 0, u, n, hu, hn, k, hk => by
    simp only [List.getElem?_cons_zero, Option.some.injEq] at hu hn
    subst hu; subst hn
    simp only [ndsC]
    rw [List.getElem?_append_left (by simp [ndC]; omega)]
    simp
  | u0 :: us, n0 :: N, h, i + 1, u, n, hu, hn, k, hk => by
    simp only [List.getElem?_cons_succ] at hu hn
    have := nds_at us N (by simpa using h) i u n hu hn k hk
    simp only [ndsC]
    rw [List.getElem?_append_right (by simp [ndC]; omega)]
    rw [← this]
    congr 1
    simp [ndC]; omega
  | [], _ :: _, h, _, _, _, _, _, _, _ => by simp at h
  | _ :: _, [], h, _, _, _, _, _, _, _ => by simp at h
/-- A part's cells. -/
theorem TrI.node {w : World} {p : Nat} {N : List Nd} (h : TrI w p N) {i : Nat} {n : Nd} (hn : N[i]? = some n) :
    ∃ (b off c : Nat) (A' : Option Addr) (c' : Nat), w.cell? ⟨p, 3, none⟩ = some (.slice (some ⟨b, off, none⟩) N.length c) ∧ w.cell? ⟨b, off + i * 5, none⟩ = some (.int .i64 (n.k : Nat)) ∧ w.cell? ⟨b, off + i * 5 + 1, none⟩ = some (.int .i64 (n.a : Nat)) ∧ w.cell? ⟨b, off + i * 5 + 2, none⟩ = some (.int .i64 (n.b : Nat)) ∧
      w.cell? ⟨b, off + i * 5 + 3, none⟩ = some (.slice A' n.sp.length c') ∧ w.cell? ⟨b, off + i * 5 + 4, none⟩ = some (.bool n.neg) ∧ Rd w A' (spC n.sp) ∧ n.sp.length ≤ 9223372036854775807 := by
  obtain ⟨us, A, c, h1, h2, h3, h4⟩ := h.of
  have hi : i < us.length := by rw [h2]; exact (List.getElem?_eq_some_iff.mp hn).1
  have hu := List.getElem?_eq_getElem hi
  obtain ⟨A', c', e, k, l⟩ := h4 i _ n hu hn
  have hk := fun k hk => nds_at us N h2 i _ n hu hn k hk
  obtain ⟨b, off, rfl, d0⟩ := h3 (i * 5 + 0) _ (hk 0 (by decide))
  have dd : ∀ k v, k < 5 → (ndC us[i] n)[k]? = some v → w.cell? ⟨b, off + (i * 5 + k), none⟩ = some v := fun k v h5 hv => by
    obtain ⟨b2, o2, e2, d⟩ := h3 (i * 5 + k) v ((hk k h5).trans hv)
    injection e2 with e2; injection e2 with e3 e4 _; subst e3; subst e4; exact d
  refine ⟨b, off, c, A', c', h1, dd 0 _ (by decide) rfl, dd 1 _ (by decide) rfl, dd 2 _ (by decide) rfl, ?_, dd 4 _ (by decide) rfl, k, l⟩
  have := dd 3 us[i] (by decide) rfl
  rw [e] at this; exact this
/-- A whole block of flags. -/
def BBlk (w : World) (R : Nat) (l : List Bool) : Prop := w.heap[R]? = some (.cells (l.map Value.bool).toArray 4 (0, 0))
theorem BBlk.set {w : World} {b k : Nat} {l : List Bool} (h : BBlk w b l) (y : Bool) : BBlk (w.setCell ⟨b, k, none⟩ (.bool y)) b (l.set k y) := by
  unfold BBlk
  rw [set_blk h]
  simp [List.map_set]
theorem BBlk.cell {w : World} {b k : Nat} {l : List Bool} (h : BBlk w b l) : w.cell? ⟨b, k, none⟩ = (l.map Value.bool)[k]? := by rw [cell_blk h]; simp
theorem BBlk.rd {w : World} {b : Nat} {l : List Bool} (h : BBlk w b l) : Rd w (some ⟨b, 0, none⟩) (l.map Value.bool) := fun k v hv => ⟨b, 0, rfl, by rw [Nat.zero_add, h.cell]; exact hv⟩
theorem BBlk.below {w w' : World} {b : Nat} {l : List Bool} (h : BBlk w b l) (m : Below w.heap.size w w') : BBlk w' b l := (m.block _ (blk_lt h)).trans h
def EnOut (w : World) (f : List Bool) (e : Ending) (w' : World) : Prop := ∃ R c, e = .returned (.slice (some ⟨R, 0, none⟩) f.length c) ∧ w.heap.size ≤ R ∧ BBlk w' R f ∧ Below w.heap.size w w'
/-- What a part's contract says. -/
def EnC (p : Nat) (N : List Nd) (ws : List Int) (r : Re) : Prop := ∀ (i : Nat), Rep N i r → ∀ (A B : Option Addr) (ca cb : Nat) (f : List Bool) (w : World), TrI w p N → Rd w A (ruC ws) → Rd w B (f.map Value.bool) → f.length = ws.length + 1 →
  Calls Tryz.prog 87 #[.pointer (some ⟨p, 3, none⟩), .int .i64 (i : Nat), .slice A ws.length ca, .slice B f.length cb] w (EnOut w (endsR r ws f))
section
set_option maxHeartbeats 3200000
set_option maxRecDepth 100000
theorem made_one' (v : Value) (z : Nat) (h : v.cells = #[v]) : madeCells v.cells z = Array.replicate z v := by
  rw [h]
  unfold madeCells
  apply Array.ext
  · simp
  · intro i h1 h2
    simp [Nat.mod_one]
theorem run_falses (w : World) (z : Nat) (h : z ≤ 1000) : (Instr.makeSlice 143 (.int .i64 (z : Int)) (.int .i64 (z : Int))).run Tryz.prog w = .ok (.slice (some ⟨w.heap.size, 0, none⟩) z z) (w.alloc (.cells (Array.replicate z (.bool false)) 4)) := by
  obtain ⟨i0, hi, hz0, hz1, hz2⟩ := info_parts (show (Tryz.prog.info? 4).map (fun i => (i.zero, i.size, i.bytes)) = some (some (.bool false), 1, 1) by kernel_rfl)
  have hm := made_one' (.bool false) (z * 1) rfl
  rw [Nat.mul_one] at hm
  rw [run_makeSlice w 143 4 i0 (.bool false) Tryz.underlying143 hi hz0 .i64 .i64 z z (by omega) (by omega) (by rw [hz1]; omega) (by rw [hz2]; omega) (by omega), hz1, Int.toNat_natCast, Nat.mul_one, hm]
theorem ends_cat (p : Nat) (N : List Nd) (ws : List Int) (hl : ws.length ≤ 990) (x y : Re) (hx : EnC p N ws x) (hy : EnC p N ws y) : EnC p N ws (.cat x y) := by
  intro i hrep A B ca cb f w ht ha hb hf
  obtain ⟨n, hn, hk, _, _, rx, ry⟩ := hrep
  obtain ⟨b, off, c, A', c', k3, n0, n1, n2, n3, n4, hsp, hsl⟩ := ht.node hn
  have hlt := (List.getElem?_eq_some_iff.mp hn).1
  have i1 : (i : Int) < (N.length : Int) := by omega
  have i0 : (0 : Int) ≤ (i : Int) := by omega
  rw [hk] at n0
  clear hsp hsl hn hk
  have hmk := fun u => run_falses u f.length (by omega)
  obtain ⟨RES, hRES⟩ : ∃ RES, RES = endsR (.cat x y) ws f := ⟨_, rfl⟩
  rw [← hRES]
  obtain ⟨W1, hW1⟩ : ∃ W1, W1 = w.alloc (.cells #[.int .i64 1, .int .i64 (n.a : Nat), .int .i64 (n.b : Nat), .slice A' n.sp.length c', .bool n.neg] 172) := ⟨_, rfl⟩
  obtain ⟨W2, hW2⟩ : ∃ W2, W2 = W1.alloc (.cells (Array.replicate f.length (.bool false)) 4) := ⟨_, rfl⟩
  have hbx : W1.heap[w.heap.size]? = some (.cells #[.int .i64 1, .int .i64 (n.a : Nat), .int .i64 (n.b : Nat), .slice A' n.sp.length c', .bool n.neg] 172 (0, 0)) := by rw [hW1]; exact heap_alloc_new _ _
  have hb1 : Below w.heap.size w W1 := by rw [hW1]; exact (RowKit.Below.refl _ w).alloc (Nat.le_refl _) _
  have hb2 : Below W1.heap.size W1 W2 := by rw [hW2]; exact (RowKit.Below.refl _ W1).alloc (Nat.le_refl _) _
  have hbx2 := (hb2.block _ (blk_lt hbx)).trans hbx
  have m0 : W2.cell? ⟨w.heap.size, 0, none⟩ = some (.int .i64 1) := cell_blk hbx2 0
  have m1 : W2.cell? ⟨w.heap.size, 1, none⟩ = some (.int .i64 (n.a : Nat)) := cell_blk hbx2 1
  have m2 : W2.cell? ⟨w.heap.size, 2, none⟩ = some (.int .i64 (n.b : Nat)) := cell_blk hbx2 2
  have HB2 := Lib.hid (hb1.trans (hb2.mono hb1.size))
  have HX := Lib.hid (fun W (m : Below w.heap.size w W) => hx n.a rx A B ca cb f W (ht.below m) (ha.below m) (hb.below m) hf)
  have HY := Lib.hid (fun (B' : Option Addr) (c2 : Nat) (f' : List Bool) W (m : Below w.heap.size w W) (hb' : Rd W B' (f'.map Value.bool)) (hf' : f'.length = ws.length + 1) => hy n.b ry A B' ca c2 f' W (ht.below m) (ha.below m) hb' hf')
  have HLEN := Lib.hid (ends_len ws x f hf)
  have HRES := Lib.hid hRES; have HW1 := Lib.hid hW1
  have HW2 := Lib.hid (show W2 = (w.alloc (.cells #[.int .i64 1, .int .i64 (n.a : Nat), .int .i64 (n.b : Nat), .slice A' n.sp.length c', .bool n.neg] 172)).alloc (.cells (Array.replicate f.length (.bool false)) 4) by rw [hW2, hW1])
  rw [hW2, hW1] at m0 m1 m2
  clear hW1 hW2 hbx hb1 hb2 hbx2 hx hy rx ry ht ha hb hf hRES
  go_enter Tryz.func87, Tryz.ntmps87
  go_wp2_with fail
  rw [← HW2.out] at m0 m1 m2 ⊢
  obtain ⟨nb, hnb⟩ : ∃ nb, nb = w.heap.size := ⟨_, rfl⟩
  rw [← hnb] at m1 m2
  go_region_held3 (fun w' => w'.cell? ⟨w.heap.size, 1, none⟩ = some (.int .i64 (n.a : Nat)) ∧ w'.cell? ⟨w.heap.size, 2, none⟩ = some (.int .i64 (n.b : Nat))) (first | exact ⟨by rw [← hnb]; exact m1, by rw [← hnb]; exact m2⟩ | exact ⟨q1, q2⟩ | exact ⟨r1, r2⟩) (first
    | (go_at_call 87; (with_reducible refine (HX.out _ (by first | exact HB2.out.drew | exact HB2.out)).mono ?_); rintro e w7 ⟨R7, c7, rfl, hge7, hr7, hb7⟩
       have HB7 := Lib.hid (show Below w.heap.size w w7 from (by first | exact HB2.out.drew.trans (hb7.mono HB2.out.size) | exact HB2.out.trans (hb7.mono HB2.out.size)))
       have q1 : w7.cell? ⟨w.heap.size, 1, none⟩ = some (.int .i64 (n.a : Nat)) := cell_low (by rw [← hnb]; exact m1) hb7
       have q2 : w7.cell? ⟨w.heap.size, 2, none⟩ = some (.int .i64 (n.b : Nat)) := cell_low (by rw [← hnb]; exact m2) hb7
       have HR7 := Lib.hid hr7; clear hb7 hr7 hge7)
    | (go_at_call 87; (with_reducible refine (HY.out _ c7 _ _ HB7.out HR7.out.rd HLEN.out).mono ?_); rintro e w8 ⟨R8, c8, rfl, hge8, hr8, hb8⟩
       have HB8 := Lib.hid (HB7.out.trans (hb8.mono HB7.out.size))
       have r1 := cell_low q1 hb8
       have r2 := cell_low q2 hb8
       have HR8 := Lib.hid hr8; have HGE8 := Lib.hid hge8; clear hb8 hr8 hge8))
  all_goals
    go_wp2
    go_ret
    rw [HRES.out]
    exact ⟨R8, c8, rfl, by have := HB7.out.size; have := HGE8.out; omega, HR8.out, HB8.out⟩
end
end
section
set_option linter.unusedVariables false
set_option linter.unusedSimpArgs false
open Go.RowKit
section
set_option maxHeartbeats 3200000
set_option maxRecDepth 100000
theorem info_bools1 : (Tryz.prog.info? 4).map (·.size) = some 1 := by kernel_rfl
theorem ends_none (p : Nat) (N : List Nd) (ws : List Int) (hl : ws.length ≤ 990) : EnC p N ws .none := by
  intro i hrep A B ca cb f w ht ha hb hf
  obtain ⟨n, hn, hk⟩ := hrep
  obtain ⟨b, off, c, A', c', k3, n0, n1, n2, n3, n4, hsp, hsl⟩ := ht.node hn
  have hlt := (List.getElem?_eq_some_iff.mp hn).1
  have i1 : (i : Int) < (N.length : Int) := by omega
  have i0 : (0 : Int) ≤ (i : Int) := by omega
  rw [hk] at n0
  clear hsp hsl hn hk
  have hmk := fun u => run_falses u f.length (by omega)
  obtain ⟨W1, hW1⟩ : ∃ W1, W1 = w.alloc (.cells #[.int .i64 6, .int .i64 (n.a : Nat), .int .i64 (n.b : Nat), .slice A' n.sp.length c', .bool n.neg] 172) := ⟨_, rfl⟩
  obtain ⟨W2, hW2⟩ : ∃ W2, W2 = W1.alloc (.cells (Array.replicate f.length (.bool false)) 4) := ⟨_, rfl⟩
  have hbx : W1.heap[w.heap.size]? = some (.cells #[.int .i64 6, .int .i64 (n.a : Nat), .int .i64 (n.b : Nat), .slice A' n.sp.length c', .bool n.neg] 172 (0, 0)) := by rw [hW1]; exact heap_alloc_new _ _
  have hb1 : Below w.heap.size w W1 := by rw [hW1]; exact (RowKit.Below.refl _ w).alloc (Nat.le_refl _) _
  have hb2 : Below W1.heap.size W1 W2 := by rw [hW2]; exact (RowKit.Below.refl _ W1).alloc (Nat.le_refl _) _
  have hbx2 := (hb2.block _ (blk_lt hbx)).trans hbx
  have m0 : W2.cell? ⟨w.heap.size, 0, none⟩ = some (.int .i64 6) := cell_blk hbx2 0
  have m1 : W2.cell? ⟨w.heap.size, 1, none⟩ = some (.int .i64 (n.a : Nat)) := cell_blk hbx2 1
  have m2 : W2.cell? ⟨w.heap.size, 2, none⟩ = some (.int .i64 (n.b : Nat)) := cell_blk hbx2 2
  have HB2 := Lib.hid (hb1.trans (hb2.mono hb1.size))
  have hg0 : W2.heap[w.heap.size + 1]? = some (.cells (Array.replicate f.length (.bool false)) 4 (0, 0)) := by
    have e : W1.heap.size = w.heap.size + 1 := by rw [hW1]; simp
    rw [hW2, ← e]; exact heap_alloc_new _ _
  have HG := Lib.hid hg0
  have HB := Lib.hid (hb.below HB2.out)
  have hsz : W2.heap.size = w.heap.size + 2 := by rw [hW2, hW1]; simp
  have HSZ := Lib.hid hsz
  have HFL := Lib.hid (show (f.map Value.bool).length = Nat.min f.length f.length by rw [List.length_map]; exact (Nat.min_self _).symm)
  rw [show endsR .none ws f = f from rfl]
  clear hbx hb1 hb2 hbx2 ht ha hb hg0 hsz hf
  subst hW2; subst hW1
  go_enter Tryz.func87, Tryz.ntmps87
  go_wp2_with (first
    | (refine wpList_copy_mv (o := ⟨some 130, _, _, _, _, _⟩) ?_ (.tmp 128) (.tmp 129) 143 143 ?_ 4 Tryz.underlying143 info_bools1 (some ⟨w.heap.size + 1, 0, none⟩) B f.length f.length f.length cb ?_ ?_ (w.heap.size + 1) 0 _ 4 HG.out (f.map Value.bool) ?_ ?_ HB.out ?_ ?_ ?_; (rfl; rfl; rfl; rfl; exact HFL.out; (intro _; rfl); (rw [List.length_map, Array.size_replicate]; omega); (intro v hv; obtain ⟨x, _, rfl⟩ := List.mem_map.1 hv; rfl); intro w2 hg2 hm2 hs2; have HG2 := Lib.hid hg2; clear hg2))
    | fail)
  all_goals
    go_ret
    exact ⟨w.heap.size + 1, f.length, rfl, by omega, by unfold BBlk; rw [HG2.out]; congr 2; simp [spl, splice, List.drop_eq_nil_of_le], HB2.out.trans (hm2.belowB (by rw [HSZ.out]; omega) (fun k hk e => by omega))⟩
end
end
section
set_option linter.unusedVariables false
set_option linter.unusedSimpArgs false
open Go.RowKit
/-- What a row of flags holds when its first k were set. -/
def mixB (l : List Bool) (k : Nat) : List Bool := l.take k ++ List.replicate (l.length - k) false
theorem mixB_zero (l : List Bool) : mixB l 0 = List.replicate l.length false := by simp [mixB]
theorem mixB_full (l : List Bool) : mixB l l.length = l := by simp [mixB]
theorem mixB_len {l : List Bool} {k : Nat} (h : k ≤ l.length) : (mixB l k).length = l.length := by simp [mixB]; omega
theorem mixB_set {l : List Bool} {k : Nat} (h : k < l.length) : (mixB l k).set k l[k] = mixB l (k + 1) := by
  unfold mixB
  have e : l.length - k = (l.length - (k + 1)) + 1 := by omega
  have hl : (l.take k).length = k := by rw [List.length_take]; omega
  rw [e, List.replicate_succ, List.set_append_right _ _ (by omega), hl, Nat.sub_self, List.set_cons_zero, List.take_add_one, List.getElem?_eq_getElem h]
  simp only [Option.toList_some, List.append_assoc, List.cons_append, List.nil_append]
structure AltRel (w : World) (R7 R8 : Nat) (f1 f2 : List Bool) (wr : World) (k : Nat) : Prop where
  row : BBlk wr (w.heap.size + 1) (mixB (orL f1 f2) k)
  one : BBlk wr R7 f1
  two : BBlk wr R8 f2
  below : Below w.heap.size w wr
  ne1 : R7 ≠ w.heap.size + 1
  ne2 : R8 ≠ w.heap.size + 1
theorem AltRel.next {w wr : World} {R7 R8 k : Nat} {f1 f2 : List Bool} {y : Bool} (h : AltRel w R7 R8 f1 f2 wr k) (hk : k < (orL f1 f2).length) (hy : (orL f1 f2)[k] = y) : AltRel w R7 R8 f1 f2 (wr.setCell ⟨w.heap.size + 1, k, none⟩ (.bool y)) (k + 1) :=
  ⟨by rw [← mixB_set hk, hy]; exact h.row.set y, (heap_setCell_other _ _ _ _ (by simpa using h.ne1)).trans h.one, (heap_setCell_other _ _ _ _ (by simpa using h.ne2)).trans h.two, h.below.setCell (by simp) _, h.ne1, h.ne2⟩
section
set_option maxHeartbeats 3200000
set_option maxRecDepth 100000
theorem ends_alt (p : Nat) (N : List Nd) (ws : List Int) (hl : ws.length ≤ 990) (x y : Re) (hx : EnC p N ws x) (hy : EnC p N ws y) : EnC p N ws (.alt x y) := by
  intro i hrep A B ca cb f w ht ha hb hf
  obtain ⟨n, hn, hk, _, _, rx, ry⟩ := hrep
  obtain ⟨b, off, c, A', c', k3, n0, n1, n2, n3, n4, hsp, hsl⟩ := ht.node hn
  have hlt := (List.getElem?_eq_some_iff.mp hn).1
  have i1 : (i : Int) < (N.length : Int) := by omega
  have i0 : (0 : Int) ≤ (i : Int) := by omega
  rw [hk] at n0
  clear hsp hsl hn hk
  have hmk := fun u => run_falses u f.length (by omega)
  have hfl : f.length ≤ 991 := by omega
  obtain ⟨f1, hf1⟩ : ∃ f1, f1 = endsR x ws f := ⟨_, rfl⟩
  obtain ⟨f2, hf2⟩ : ∃ f2, f2 = endsR y ws f := ⟨_, rfl⟩
  have l1 : f1.length = f.length := by rw [hf1, ends_len ws x f hf, hf]
  have l2 : f2.length = f.length := by rw [hf2, ends_len ws y f hf, hf]
  obtain ⟨RES, hRES⟩ : ∃ RES, RES = orL f1 f2 := ⟨_, rfl⟩
  have hE : endsR (.alt x y) ws f = RES := by rw [hRES, hf1, hf2]; rfl
  have l3 : RES.length = f.length := by rw [hRES, orL_len (by omega), l1]
  rw [hE]
  clear hE
  obtain ⟨W1, hW1⟩ : ∃ W1, W1 = w.alloc (.cells #[.int .i64 2, .int .i64 (n.a : Nat), .int .i64 (n.b : Nat), .slice A' n.sp.length c', .bool n.neg] 172) := ⟨_, rfl⟩
  obtain ⟨W2, hW2⟩ : ∃ W2, W2 = W1.alloc (.cells (Array.replicate f.length (.bool false)) 4) := ⟨_, rfl⟩
  have hbx : W1.heap[w.heap.size]? = some (.cells #[.int .i64 2, .int .i64 (n.a : Nat), .int .i64 (n.b : Nat), .slice A' n.sp.length c', .bool n.neg] 172 (0, 0)) := by rw [hW1]; exact heap_alloc_new _ _
  have hb1 : Below w.heap.size w W1 := by rw [hW1]; exact (RowKit.Below.refl _ w).alloc (Nat.le_refl _) _
  have hb2 : Below W1.heap.size W1 W2 := by rw [hW2]; exact (RowKit.Below.refl _ W1).alloc (Nat.le_refl _) _
  have hbx2 := (hb2.block _ (blk_lt hbx)).trans hbx
  have m0 : W2.cell? ⟨w.heap.size, 0, none⟩ = some (.int .i64 2) := cell_blk hbx2 0
  have m1 : W2.cell? ⟨w.heap.size, 1, none⟩ = some (.int .i64 (n.a : Nat)) := cell_blk hbx2 1
  have m2 : W2.cell? ⟨w.heap.size, 2, none⟩ = some (.int .i64 (n.b : Nat)) := cell_blk hbx2 2
  have HB2 := Lib.hid (hb1.trans (hb2.mono hb1.size))
  have HX := Lib.hid (fun W (m : Below w.heap.size w W) => by have h := hx n.a rx A B ca cb f W (ht.below m) (ha.below m) (hb.below m) hf; rw [← hf1] at h; exact h)
  have HY := Lib.hid (fun W (m : Below w.heap.size w W) => by have h := hy n.b ry A B ca cb f W (ht.below m) (ha.below m) (hb.below m) hf; rw [← hf2] at h; exact h)
  have hg0 : BBlk W2 (w.heap.size + 1) (mixB (orL f1 f2) 0) := by
    have e : W1.heap.size = w.heap.size + 1 := by rw [hW1]; simp
    unfold BBlk
    rw [mixB_zero, ← hRES, l3, hW2, ← e, heap_alloc_new]
    simp
  have HG := Lib.hid hg0
  have hsz : W2.heap.size = w.heap.size + 2 := by rw [hW2, hW1]; simp
  have HSZ := Lib.hid hsz
  have HRES := Lib.hid hRES; have HW1 := Lib.hid hW1
  have HW2 := Lib.hid (show W2 = (w.alloc (.cells #[.int .i64 2, .int .i64 (n.a : Nat), .int .i64 (n.b : Nat), .slice A' n.sp.length c', .bool n.neg] 172)).alloc (.cells (Array.replicate f.length (.bool false)) 4) by rw [hW2, hW1])
  rw [hW2, hW1] at m0 m1 m2
  clear hW1 hW2 hbx hb1 hb2 hbx2 hx hy rx ry ht ha hb hf hRES hg0 hsz hf1 hf2
  go_enter Tryz.func87, Tryz.ntmps87
  go_wp2_with fail
  rw [← HW2.out] at m0 m1 m2 ⊢
  obtain ⟨nb, hnb⟩ : ∃ nb, nb = w.heap.size := ⟨_, rfl⟩
  rw [← hnb] at m1 m2
  go_region_held3 (fun w' => w'.cell? ⟨w.heap.size, 1, none⟩ = some (.int .i64 (n.a : Nat)) ∧ w'.cell? ⟨w.heap.size, 2, none⟩ = some (.int .i64 (n.b : Nat))) (first | exact ⟨by rw [← hnb]; exact m1, by rw [← hnb]; exact m2⟩ | exact ⟨q1, q2⟩ | exact ⟨r1, r2⟩) (first
    | (go_at_call 87; (with_reducible refine (HX.out _ (by first | exact HB2.out.drew | exact HB2.out)).mono ?_); rintro e w7 ⟨R7, c7, rfl, hge7, hr7, hb7⟩
       go_must (
       have HB7 := Lib.hid (show Below w.heap.size w w7 from (by first | exact HB2.out.drew.trans (hb7.mono HB2.out.size) | exact HB2.out.trans (hb7.mono HB2.out.size)))
       have q1 : w7.cell? ⟨w.heap.size, 1, none⟩ = some (.int .i64 (n.a : Nat)) := cell_low (by rw [← hnb]; exact m1) hb7
       have q2 : w7.cell? ⟨w.heap.size, 2, none⟩ = some (.int .i64 (n.b : Nat)) := cell_low (by rw [← hnb]; exact m2) hb7
       have HG7 := Lib.hid (show BBlk w7 (w.heap.size + 1) (mixB (orL f1 f2) 0) from (by first | exact HG.out.below hb7 | exact BBlk.below (w := World.drew W2) HG.out hb7))
       have HGE7 := Lib.hid (show w.heap.size + 2 ≤ R7 from by rw [← HSZ.out]; exact hge7)
       have HR7 := Lib.hid hr7; clear hb7 hr7 hge7))
    | (go_at_call 87; (with_reducible refine (HY.out _ HB7.out).mono ?_); rintro e w8 ⟨R8, c8, rfl, hge8, hr8, hb8⟩
       have HB8 := Lib.hid (HB7.out.trans (hb8.mono HB7.out.size))
       have r1 := cell_low q1 hb8
       have r2 := cell_low q2 hb8
       have HG8 := Lib.hid (HG7.out.below hb8)
       have HR78 := Lib.hid (HR7.out.below hb8)
       have HGE8 := Lib.hid (show w.heap.size + 2 ≤ R8 from Nat.le_trans (Nat.le_trans HGE7.out (Nat.le_of_lt (blk_lt HR7.out))) hge8)
       have HR8 := Lib.hid hr8; clear hb8 hr8 hge8)
    | fail)
  go_wp2
  go_loopw [160] (fun sk wr => ∃ k : Nat, sk = .int .i64 k ∧ k ≤ f.length ∧ Aside (AltRel w R7 R8 f1 f2 wr k)) (fun sk _ => f.length - (intOf sk).toNat)
  case atStart => exact ⟨0, rfl, by omega, ⟨HG8.out, HR78.out, HR8.out, HB8.out, by have := HGE7.out; omega, by have := HGE8.out; omega⟩⟩
  case round =>
    obtain ⟨k, rfl, hk, HK⟩ := hrel
    have j0 : (0 : Int) ≤ (k : Int) := by omega
    by_cases hlt : k < f.length
    · have j1 : (k : Int) < (f1.length : Int) := by omega
      have j2 : (k : Int) < (f2.length : Int) := by omega
      have j3 : (k : Int) < (f.length : Int) := by omega
      have k1 : k < f1.length := by omega
      have k2 : k < f2.length := by omega
      have k3 : k < (orL f1 f2).length := by rw [← HRES.out]; omega
      have c1 : wr.cell? ⟨R7, k, none⟩ = some (.bool f1[k]) := by rw [HK.out.one.cell, List.getElem?_map, List.getElem?_eq_getElem k1]; rfl
      have c2 : wr.cell? ⟨R8, k, none⟩ = some (.bool f2[k]) := by rw [HK.out.two.cell, List.getElem?_map, List.getElem?_eq_getElem k2]; rfl
      obtain ⟨u3, c3⟩ : ∃ u, wr.cell? ⟨w.heap.size + 1, k, none⟩ = some u := ⟨_, by rw [HK.out.row.cell, List.getElem?_map, List.getElem?_eq_getElem (by rw [mixB_len (by omega)]; exact k3)]; rfl⟩
      have hfk := free_blk HK.out.row k
      have ho : (orL f1 f2)[k] = (f1[k] || f2[k]) := by simp [orL]
      have HN := Lib.hid (fun yy (e : (f1[k] || f2[k]) = yy) => HK.out.next k3 (ho.trans e))
      clear ho
      generalize f1[k] = b1 at *
      generalize f2[k] = b2 at *
      cases b1
      · go_wp2
        go_roundw
        case rel => exact ⟨k + 1, by go_num, by omega, HN.out _ (by simp)⟩
        case measure => simp [intOf]; omega
      · go_wp2
        go_roundw
        case rel => exact ⟨k + 1, by go_num, by omega, HN.out _ (by simp)⟩
        case measure => simp [intOf]; omega
    · obtain rfl : k = f.length := by omega
      have HX1 := Lib.hid (show BBlk wr (w.heap.size + 1) RES by have h := HK.out.row; rw [← HRES.out, ← l3, mixB_full] at h; exact h)
      have HX2 := Lib.hid HK.out.below
      go_wp2
      go_ret
      exact ⟨w.heap.size + 1, f.length, by rw [l3]; rfl, by omega, HX1.out, HX2.out⟩
end
end
section
set_option linter.unusedVariables false
set_option linter.unusedSimpArgs false
open Go.RowKit
structure SetRel (w : World) (cs : Array Value) (RES : List Bool) (wr : World) (k : Nat) : Prop where
  row : BBlk wr (w.heap.size + 1) (mixB RES (k + 1))
  box : wr.heap[w.heap.size]? = some (.cells cs 172 (0, 0))
  below : Below w.heap.size w wr
theorem SetRel.next {w wr w2 : World} {cs : Array Value} {RES : List Bool} {k : Nat} {y : Bool} (h : SetRel w cs RES wr k) (m : Below wr.heap.size wr w2) (hk : k + 1 < RES.length) (hy : RES[k + 1] = y) : SetRel w cs RES (w2.setCell ⟨w.heap.size + 1, k + 1, none⟩ (.bool y)) (k + 1) :=
  ⟨by rw [← mixB_set hk, hy]; exact (h.row.below m).set y, (heap_setCell_other _ _ _ _ (by simp)).trans ((m.block _ (blk_lt h.box)).trans h.box), (h.below.trans (m.mono h.below.size)).setCell (by simp) _⟩
theorem SetRel.drew {w wr : World} {cs : Array Value} {RES : List Bool} {k : Nat} (h : SetRel w cs RES wr k) : SetRel w cs RES wr.drew k := ⟨h.row, h.box, h.below.drew⟩
theorem cell_set_ne {w : World} {a : Addr} {b k : Nat} {v u : Value} (h : w.cell? a = some v) (hne : a.block ≠ b) : (w.setCell ⟨b, k, none⟩ u).cell? a = some v := by
  rw [World.cell?_of_block (heap_setCell_other _ _ _ _ (by first | exact hne | exact hne.symm))]; exact h
theorem mixB_one {l : List Bool} (h : ∃ t, l = false :: t) : mixB l 1 = List.replicate l.length false := by
  obtain ⟨t, rfl⟩ := h
  simp [mixB, List.replicate_succ]
section
set_option maxHeartbeats 3200000
set_option maxRecDepth 100000
theorem ends_set (p : Nat) (N : List Nd) (ws : List Int) (hl : ws.length ≤ 990) (sp : Spans) (neg : Bool) : EnC p N ws (.set sp neg) := by
  intro i hrep A B ca cb f w ht ha hb hf
  obtain ⟨n, hn, hk, hsp, hng⟩ := hrep
  obtain ⟨b, off, c, A', c', k3, n0, n1, n2, n3, n4, hrs, hsl⟩ := ht.node hn
  have hlt := (List.getElem?_eq_some_iff.mp hn).1
  have i1 : (i : Int) < (N.length : Int) := by omega
  have i0 : (0 : Int) ≤ (i : Int) := by omega
  have n0' : w.cell? ⟨b, off + i * 5, none⟩ = some (.int .i64 0) := by rw [n0, hk]; rfl
  rw [hsp] at n3 hrs hsl
  rw [hng] at n4
  clear hn hk n0 hsp hng
  have hmk := fun u => run_falses u f.length (by omega)
  have hfl : f.length ≤ 991 := by omega
  obtain ⟨RES, hRES⟩ : ∃ RES, RES = endsR (.set sp neg) ws f := ⟨_, rfl⟩
  have l3 : RES.length = f.length := by rw [hRES, ends_len ws _ f hf, hf]
  have hat : ∀ k (h : k < ws.length), ∃ (h1 : k < f.length) (h2 : k + 1 < RES.length), RES[k + 1] = (f[k] && takesP sp neg ws[k]) := fun k h => by
    refine ⟨by omega, by omega, ?_⟩
    subst hRES
    simp [endsR, setL']
  rw [← hRES]
  obtain ⟨CS, hCS⟩ : ∃ CS : Array Value, CS = #[.int .i64 0, .int .i64 (n.a : Nat), .int .i64 (n.b : Nat), .slice A' sp.length c', .bool neg] := ⟨_, rfl⟩
  obtain ⟨W1, hW1⟩ : ∃ W1, W1 = w.alloc (.cells CS 172) := ⟨_, rfl⟩
  obtain ⟨W2, hW2⟩ : ∃ W2, W2 = W1.alloc (.cells (Array.replicate f.length (.bool false)) 4) := ⟨_, rfl⟩
  have hbx : W1.heap[w.heap.size]? = some (.cells CS 172 (0, 0)) := by rw [hW1]; exact heap_alloc_new _ _
  have hb1 : Below w.heap.size w W1 := by rw [hW1]; exact (RowKit.Below.refl _ w).alloc (Nat.le_refl _) _
  have hb2 : Below W1.heap.size W1 W2 := by rw [hW2]; exact (RowKit.Below.refl _ W1).alloc (Nat.le_refl _) _
  have hbx2 := (hb2.block _ (blk_lt hbx)).trans hbx
  have m0 : W2.cell? ⟨w.heap.size, 0, none⟩ = some (.int .i64 0) := by rw [cell_blk hbx2, hCS]; rfl
  have hg0 : BBlk W2 (w.heap.size + 1) (mixB RES 1) := by
    have e : W1.heap.size = w.heap.size + 1 := by rw [hW1]; simp
    unfold BBlk
    rw [mixB_one ⟨_, hRES⟩, l3, hW2, ← e, heap_alloc_new]
    simp
  have hst : SetRel w CS RES W2 0 := ⟨hg0, hbx2, hb1.trans (hb2.mono hb1.size)⟩
  have HST := Lib.hid hst
  have HIN := Lib.hid (fun W (m : Below w.heap.size w W) (q : Int) => in_any 0 (n.a : Nat) (n.b : Nat) A' c' sp neg q W (hrs.below m) hsl)
  have HA := Lib.hid ha; have HB := Lib.hid hb; have HAT := Lib.hid hat; have HCS := Lib.hid hCS
  have HFW := Lib.hid hf
  clear hbx hb1 hb2 hbx2 hg0 hst ht ha hb hat hrs hsl hRES hf
  subst hW2; subst hW1; subst hCS
  go_enter Tryz.func87, Tryz.ntmps87
  go_wp2
  go_loopw [106] (fun sk wr => ∃ k : Nat, sk = .int .i64 k ∧ k ≤ ws.length ∧ Aside (SetRel w #[.int .i64 0, .int .i64 (n.a : Nat), .int .i64 (n.b : Nat), .slice A' sp.length c', .bool neg] RES wr k)) (fun sk _ => ws.length - (intOf sk).toNat)
  case atStart => exact ⟨0, rfl, by omega, HST.out⟩
  case round =>
    obtain ⟨k, rfl, hk, HK⟩ := hrel
    have j0 : (0 : Int) ≤ (k : Int) := by omega
    by_cases hlt : k < ws.length
    · obtain ⟨h1, h2, hat⟩ := HAT.out k hlt
      have j1 : (k : Int) < (ws.length : Int) := by omega
      have j2 : (k : Int) < (f.length : Int) := by omega
      have j3 : (k : Int) + 1 < (f.length : Int) := by have := HFW.out; omega
      have hwr : IntKind.i64.wrap ((k : Int) + 1) = (k : Int) + 1 := IntWalk.i64_in _ (by omega)
      have j4 : (0 : Int) ≤ (k : Int) + 1 := by omega
      have j5 : ((k : Int) + 1).toNat = k + 1 := by omega
      obtain ⟨bA, oA, rfl, c1w⟩ := HA.out k (.int .i32 ws[k]) (by unfold ruC; rw [List.getElem?_map, List.getElem?_eq_getElem hlt]; rfl)
      obtain ⟨bB, oB, rfl, c2w⟩ := HB.out k (.bool f[k]) (by rw [List.getElem?_map, List.getElem?_eq_getElem h1]; rfl)
      have nA : bA ≠ w.heap.size + 1 := by have : bA < w.heap.size := World.block_lt_of_cell? w _ c1w; omega
      have nB : bB ≠ w.heap.size + 1 := by have : bB < w.heap.size := World.block_lt_of_cell? w _ c2w; omega
      have c1 := cell_low c1w HK.out.below
      have c2 := cell_low c2w HK.out.below
      clear c1w c2w
      obtain ⟨u3, c3⟩ : ∃ u, wr.cell? ⟨w.heap.size + 1, k + 1, none⟩ = some u := ⟨_, by rw [HK.out.row.cell, List.getElem?_map, List.getElem?_eq_getElem (by rw [mixB_len (by omega)]; exact h2)]; rfl⟩
      have hfk := free_blk HK.out.row (k + 1)
      have HFK := Lib.hid (fun w' (m : Below wr.heap.size wr w') => free_blk (HK.out.row.below m) (k + 1))
      have p0 := cell_blk HK.out.box 0
      have p1 := cell_blk HK.out.box 1
      have p2 := cell_blk HK.out.box 2
      have p3 := cell_blk HK.out.box 3
      have p4 := cell_blk HK.out.box 4
      simp only [List.getElem?_toArray, List.getElem?_cons_succ, List.getElem?_cons_zero] at p0 p1 p2 p3 p4
      have HN := Lib.hid (fun w2 yy (m : Below wr.heap.size wr w2) (e : (f[k] && takesP sp neg ws[k]) = yy) => HK.out.next m h2 (hat.trans e))
      have HI := Lib.hid (fun W (m : Below wr.heap.size wr W) => HIN.out W (HK.out.below.trans (m.mono HK.out.below.size)) ws[k])
      clear hat
      generalize f[k] = b1 at *
      generalize ws[k] = q at *
      cases b1
      · go_wp2
        go_region
        go_wp2
        go_roundw
        case rel => exact ⟨k + 1, by go_num, by omega, (HN.out _ _ (RowKit.Below.refl _ _) (by simp)).drew⟩
        case measure => simp [intOf]; omega
      · go_wp2
        go_region_held3 (fun wx => wx.cell? ⟨w.heap.size, 0, none⟩ = some (.int .i64 0) ∧ wx.cell? ⟨w.heap.size, 1, none⟩ = some (.int .i64 (n.a : Nat)) ∧ wx.cell? ⟨w.heap.size, 2, none⟩ = some (.int .i64 (n.b : Nat)) ∧ wx.cell? ⟨w.heap.size, 3, none⟩ = some (.slice A' sp.length c') ∧ wx.cell? ⟨w.heap.size, 4, none⟩ = some (.bool neg) ∧ wx.cell? ⟨bA, oA + k, none⟩ = some (.int .i32 q) ∧ wx.cell? ⟨bB, oB + k, none⟩ = some (.bool true)) (first | exact ⟨p0, p1, p2, p3, p4, c1, c2⟩ | exact ⟨s0, s1, s2, s3, s4, d1, d2⟩ | exact ⟨cell_set_ne s0 (by simp), cell_set_ne s1 (by simp), cell_set_ne s2 (by simp), cell_set_ne s3 (by simp), cell_set_ne s4 (by simp), cell_set_ne d1 nA, cell_set_ne d2 nB⟩) (first
          | (go_at_call 105; (with_reducible refine (HI.out _ (by first | exact RowKit.Below.refl _ _ | exact (RowKit.Below.refl _ _).drew)).mono ?_); rintro e w7 ⟨rfl, hb7⟩
             go_must (
             have hb8 : Below wr.heap.size wr w7 := by first | exact hb7 | exact (RowKit.Below.refl wr.heap.size wr).drew.trans hb7
             have s0 := cell_low p0 hb8
             have s1 := cell_low p1 hb8
             have s2 := cell_low p2 hb8
             have s3 := cell_low p3 hb8
             have s4 := cell_low p4 hb8
             have d1 := cell_low c1 hb8
             have d2 := cell_low c2 hb8
             have d3 := cell_low c3 hb8
             have d4 := HFK.out _ hb8
             have HB8 := Lib.hid hb8; clear hb7 hb8))
          | fail)
        go_wp2
        go_roundw
        case rel => exact ⟨k + 1, by go_num, by omega, HN.out _ _ HB8.out (by simp)⟩
        case measure => simp [intOf]; omega
    · obtain rfl : k = ws.length := by omega
      have e : ws.length + 1 = RES.length := by rw [l3, HFW.out]
      have HX1 := Lib.hid (show BBlk wr (w.heap.size + 1) RES by have h := HK.out.row; rw [e, mixB_full] at h; exact h)
      clear e
      have HX2 := Lib.hid HK.out.below
      go_wp2
      go_ret
      exact ⟨w.heap.size + 1, f.length, by rw [l3]; rfl, by omega, HX1.out, HX2.out⟩
end
end
end Go.Proofs.YtinjdlplbficiaaGreatDoor
