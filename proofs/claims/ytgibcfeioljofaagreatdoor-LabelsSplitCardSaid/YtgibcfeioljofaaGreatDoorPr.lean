/-
  Print: the program's own.
-/
import Derived.Test.YtgibcfeioljofaaGreatDoorQu
import Derived.Test.YtgibcfeioljofaaGreatDoorLr
namespace Go.Proofs.YtgibcfeioljofaaGreatDoor
set_option linter.unusedVariables false
set_option linter.unusedSimpArgs false
open Go.RowKit
/-- Not too many labels, nor too long ones. -/
def Few (l : List Lb) : Prop := l.length ≤ 6000 ∧ ∀ x ∈ l, x.1.size ≤ 6000 ∧ x.2.size ≤ 6000
/-- Within a round: the builder in block b, the round's label in its box. -/
structure PS (w0 : World) (b bx : Nat) (x1 x2 : ByteArray) (acc : Bs) (w : World) : Prop where
  bld : Bld w0.heap.size b acc w
  below : RowKit.Below w0.heap.size w0 w
  ne : bx ≠ b
  box : w.heap[bx]? = some (.cells #[.string x1, .string x2] 26 (0, 0))
theorem PS.cells {w0 : World} {b bx : Nat} {x1 x2 : ByteArray} {acc : Bs} {w : World} (h : PS w0 b bx x1 x2 acc w) : w.cell? ⟨bx, 0, none⟩ = some (.string x1) ∧ w.cell? ⟨bx, 1, none⟩ = some (.string x2) := by
  have h0 := cell_blk h.box 0
  have h1 := cell_blk h.box 1
  simp only [List.getElem?_toArray, List.getElem?_cons_zero, List.getElem?_cons_succ] at h0 h1
  exact ⟨h0, h1⟩
theorem PS.kept {w0 : World} {b bx : Nat} {x1 x2 : ByteArray} {acc acc' : Bs} {w w' : World} (h : PS w0 b bx x1 x2 acc w) (hb : Bld w0.heap.size b acc' w') (hw : RowKit.Below w0.heap.size w w') (hk : Lib.OthersKept 5 (some b) w w') : PS w0 b bx x1 x2 acc' w' :=
  ⟨hb, h.below.trans hw, h.ne, hk bx _ h.box (fun e => h.ne (Option.some.inj e)) (fun c fz e => by injection e with _ e2 _; exact absurd e2 (by decide))⟩
theorem PS.later {w0 : World} {b bx : Nat} {x1 x2 : ByteArray} {acc : Bs} {w w' : World} (h : PS w0 b bx x1 x2 acc w) (hw : RowKit.Below w.heap.size w w') : PS w0 b bx x1 x2 acc w' :=
  ⟨h.bld.moved hw, h.below.trans (hw.mono h.below.size), h.ne, (hw.block bx (blk_lt h.box)).trans h.box⟩
theorem Bld.after {B b : Nat} {xs : List UInt8} {w w' : World} (h : Bld B b xs w) (hb : RowKit.Below w.heap.size w w') : Bld B b xs w' := h.moved hb
section
set_option maxHeartbeats 1600000
set_option maxRecDepth 100000
theorem ps_wb {w0 : World} {b bx : Nat} {x1 x2 : ByteArray} {acc : Bs} {w : World} (h : PS w0 b bx x1 x2 acc w) (n : Nat) (hn : n < 256) (hl : acc.length + 1 ≤ 140737488355328) :
    Calls Tryz.prog 57 #[.pointer (some ⟨b, 0, none⟩), .int .u8 (n : Nat)] w fun e w' => e = .returned .nilIface ∧ PS w0 b bx x1 x2 (acc ++ [UInt8.ofNat n]) w' :=
  (wb_k _ b n acc w h.bld h.below.size hn hl).mono fun _ _ k => ⟨k.1, h.kept k.2.1 k.2.2.1 k.2.2.2⟩
theorem ps_ws {w0 : World} {b bx : Nat} {x1 x2 : ByteArray} {acc : Bs} {w : World} (h : PS w0 b bx x1 x2 acc w) (s : ByteArray) (hl : acc.length + s.size ≤ 140737488355328) :
    Calls Tryz.prog 58 #[.pointer (some ⟨b, 0, none⟩), .string s] w fun e w' => e = .returned (.tuple #[.int .i64 s.size, .nilIface]) ∧ PS w0 b bx x1 x2 (acc ++ bl s) w' :=
  (ws_k _ b s acc w h.bld h.below.size hl).mono fun _ _ k => ⟨k.1, h.kept k.2.1 k.2.2.1 k.2.2.2⟩
theorem print_any (A : Option Addr) (c : Nat) (l : List Lb) (w : World) (hx : Rd w A (lcells l)) (hf : Few l) : Calls Tryz.prog 29 #[.slice A l.length c] w fun e w' =>
    e = .returned (.string (mkB (printP l))) ∧ Below w.heap.size w w' := by
  obtain ⟨R, hR⟩ : ∃ R, R = printP l := ⟨_, rfl⟩
  rw [← hR]
  have hst : R = [UInt8.ofNat 123] ++ printFrom 0 (l.drop 0) := by rw [hR]; rfl
  have HST := Lib.hid hst; clear hst hR
  have hfl := hf.1
  have hw := wb_any w.heap.size w.heap.size 123 [] _ (bld_new w) (by simp) (by omega) (by simp)
  have HW := Lib.hid hw; clear hw
  go_enter Tryz.func29, Tryz.ntmps29
  go_wp2_with fail
  refine HW.out.mono ?_
  rintro e w2 ⟨rfl, hbl, hb⟩
  have HB2 := Lib.hid (((RowKit.Below.refl _ w).alloc (Nat.le_refl _) _).trans hb); clear hb
  have HBL := Lib.hid hbl; clear hbl
  go_wp2
  go_loopw [9] (fun s9 wr => ∃ (k : Nat) (acc : Bs), s9 = .int .i64 k ∧ k ≤ l.length ∧ acc.length ≤ k * 20000 + 1 ∧ Aside (Bld w.heap.size w.heap.size acc wr) ∧ Aside (RowKit.Below w.heap.size w wr) ∧ Aside (R = acc ++ printFrom k (l.drop k))) (fun s9 _ => l.length - (intOf s9).toNat)
  case atStart => exact ⟨0, [UInt8.ofNat 123], rfl, by omega, by simp, HBL.out, HB2.out, HST.out⟩
  case round =>
    obtain ⟨k, acc, rfl, hk, hal, BL, BW, E⟩ := hrel
    have k0 : (0 : Int) ≤ (k : Int) := by omega
    by_cases hlt : k < l.length
    · have k1 : (k : Int) < (l.length : Int) := by omega
      obtain ⟨b, off, rfl, c0, c1⟩ := lb_at (hx.below BW.out) hlt
      have hfx := hf.2 l[k] (List.getElem_mem hlt)
      have hE : R = acc ++ ((if k = 0 then [] else [44, 32]) ++ labP l[k] ++ printFrom (k + 1) (l.drop (k + 1))) := by
        rw [E.out, List.drop_eq_getElem_cons hlt, printFrom]
      have HE := Lib.hid hE; clear hE E hx
      generalize l[k] = x at c0 c1 hfx HE
      obtain ⟨x1, x2⟩ := x
      simp only at hfx c0 c1
      obtain ⟨f1, f2⟩ := hfx
      have hps : PS w w.heap.size wr.heap.size x1 x2 acc (wr.alloc (.cells #[.string x1, .string x2] 26)) :=
        ⟨BL.out.moved ((RowKit.Below.refl _ wr).alloc (Nat.le_refl _) _), BW.out.alloc BW.out.size _, by have := BL.out.parts.2; omega, heap_alloc_new wr _⟩
      have hq := fun W => quote_any x2 W (by omega)
      have hqs : (mkB (quoteP (bl x2))).size ≤ 2 * x2.size + 2 := by rw [mkB_size]; have := quoteP_le (bl x2); rw [bl_len] at this; exact this
      obtain ⟨q, hqq⟩ : ∃ q, q = mkB (quoteP (bl x2)) := ⟨_, rfl⟩
      rw [← hqq] at hqs
      have hqb : bl q = quoteP (bl x2) := by rw [hqq, bl_mk]
      simp only [← hqq] at hq
      have HQ := Lib.hid hq; clear hq hqq
      have HQB := Lib.hid hqb; clear hqb
      have HPS := Lib.hid hps; clear hps
      have bl1 := bl_len x1
      have bl2 := bl_len q
      have BL1 := Lib.hid bl1; clear bl1
      have BL2 := Lib.hid bl2; clear bl2
      -- from the name on
      have key : ∀ acc1 : Bs, acc1.length ≤ acc.length + 2 → ∀ W, PS w w.heap.size wr.heap.size x1 x2 acc1 W → Calls Tryz.prog 58 #[.pointer (some ⟨w.heap.size, 0, none⟩), .string x1] W fun e w' => e = .returned (.tuple #[.int .i64 x1.size, .nilIface]) ∧ PS w w.heap.size wr.heap.size x1 x2 (acc1 ++ bl x1) w' :=
        fun acc1 h1 W hW => ps_ws hW x1 (by omega)
      have KEY := Lib.hid key; clear key
      by_cases h0 : k = 0
      · subst h0
        rw [Nat.zero_mul, Nat.add_zero] at c0 c1
        have HE2 := Lib.hid (show R = (acc ++ bl x1 ++ [UInt8.ofNat 61] ++ bl q) ++ printFrom 1 (l.drop 1) by rw [HE.out, HQB.out]; simp [labP]); clear HE
        have hc := KEY.out acc (by omega) _ HPS.out
        have HC := Lib.hid hc; clear hc
        go_wp2_with fail
        refine HC.out.mono ?_
        rintro e w3 ⟨rfl, hp⟩
        have d1 := hp.cells.2
        have hc := ps_wb hp 61 (by omega) (by rw [List.length_append, BL1.out]; omega)
        have HC3 := Lib.hid hc; clear hc hp
        go_wp2_with fail
        refine HC3.out.mono ?_
        rintro e w4 ⟨rfl, hp⟩
        have d2 := hp.cells.2
        have hc := HQ.out w4
        have HP4 := Lib.hid hp; clear hp d1
        have HC4 := Lib.hid hc; clear hc
        go_wp2_with fail
        refine HC4.out.mono ?_
        rintro e w5 ⟨rfl, hb⟩
        have hc := ps_ws (HP4.out.later hb) q (by rw [List.length_append, List.length_append, BL1.out, List.length_singleton]; omega)
        have HC5 := Lib.hid hc; clear hc hb d2
        go_wp2_with fail
        refine HC5.out.mono ?_
        rintro e w6 ⟨rfl, hp⟩
        have HP6 := Lib.hid hp; clear hp
        go_wp2
        go_roundw
        case rel => exact ⟨1, _, by go_num, by omega, by rw [List.length_append, List.length_append, List.length_append, BL1.out, BL2.out, List.length_singleton]; omega, (show Aside _ from HP6.out.bld), (show Aside _ from HP6.out.below), (show Aside _ from HE2.out)⟩
        case measure => simp [intOf]; omega
      · have g0 : (0 : Int) < (k : Int) := by omega
        have HE2 := Lib.hid (show R = (acc ++ bl ⟨#[44, 32]⟩ ++ bl x1 ++ [UInt8.ofNat 61] ++ bl q) ++ printFrom (k + 1) (l.drop (k + 1)) by rw [HE.out, HQB.out, if_neg h0, show bl ⟨#[44, 32]⟩ = [44, 32] from rfl]; simp [labP]); clear HE
        have hc := ps_ws HPS.out ⟨#[44, 32]⟩ (by show acc.length + 2 ≤ _; omega)
        have HC := Lib.hid hc; clear hc
        go_wp2_with fail
        refine HC.out.mono ?_
        rintro e w2' ⟨rfl, hp⟩
        have d0 := hp.cells.1
        have hc := KEY.out _ (by rw [List.length_append]; exact Nat.le_refl _) _ hp
        have HC2 := Lib.hid hc; clear hc hp
        go_wp2_with fail
        refine HC2.out.mono ?_
        rintro e w3 ⟨rfl, hp⟩
        have d1 := hp.cells.2
        have hc := ps_wb hp 61 (by omega) (by rw [List.length_append, List.length_append, BL1.out]; show acc.length + 2 + _ + 1 ≤ _; omega)
        have HC3 := Lib.hid hc; clear hc hp d0
        go_wp2_with fail
        refine HC3.out.mono ?_
        rintro e w4 ⟨rfl, hp⟩
        have d2 := hp.cells.2
        have hc := HQ.out w4
        have HP4 := Lib.hid hp; clear hp d1
        have HC4 := Lib.hid hc; clear hc
        go_wp2_with fail
        refine HC4.out.mono ?_
        rintro e w5 ⟨rfl, hb⟩
        have hc := ps_ws (HP4.out.later hb) q (by rw [List.length_append, List.length_append, List.length_append, BL1.out, List.length_singleton]; show acc.length + 2 + _ + 1 + _ ≤ _; omega)
        have HC5 := Lib.hid hc; clear hc hb d2
        go_wp2_with fail
        refine HC5.out.mono ?_
        rintro e w6 ⟨rfl, hp⟩
        have HP6 := Lib.hid hp; clear hp
        go_wp2
        go_roundw
        case rel => exact ⟨k + 1, _, by go_num, by omega, by rw [List.length_append, List.length_append, List.length_append, List.length_append, BL1.out, BL2.out, List.length_singleton]; show acc.length + 2 + _ + 1 + _ ≤ _; omega, (show Aside _ from HP6.out.bld), (show Aside _ from HP6.out.below), (show Aside _ from HE2.out)⟩
        case measure => simp [intOf]; omega
    · obtain rfl : k = l.length := by omega
      have hr : R = acc ++ [UInt8.ofNat 125] := by rw [E.out, List.drop_length]; rfl
      subst hr
      have hw := wb_any w.heap.size w.heap.size 125 acc wr BL.out BW.out.size (by omega) (by omega)
      have HW := Lib.hid hw; clear hw
      go_wp2_with fail
      refine HW.out.mono ?_
      rintro e w3 ⟨rfl, hbl, hb⟩
      have HB3 := Lib.hid (BW.out.trans hb); clear hb
      have hs := str_any _ _ _ _ hbl HB3.out.size
      have HS := Lib.hid hs; clear hs hbl
      go_wp2_with fail
      refine HS.out.mono ?_
      rintro e w4 ⟨rfl, hb⟩
      go_wp2
      go_ret
      exact ⟨rfl, HB3.out.trans hb⟩
end
end Go.Proofs.YtgibcfeioljofaaGreatDoor
