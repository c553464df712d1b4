/-
  A record's numbers read from bytes: the program's own takeValue, and the two closures that read on.
-/
import Derived.Test.YtgogpngobdafaaaDoorJd
namespace Go.Proofs.YtgogpngobdafaaaDoor
set_option linter.unusedVariables false
set_option linter.unusedSimpArgs false
open Go.RowKit
theorem ofB_take (xs : Bs) {k : Nat} (h : k < xs.length) : ofB (xs.take (k + 1)) = ofB (xs.take k) * 256 + xs[k].toNat := by rw [List.take_succ_eq_append_getElem h, ofB_snoc]
theorem varint_len (A : Option Addr) (ca len : Nat) (xs : Bs) (w : World) (hl : xs.length = len) (hx : Rd w A (xs.map Bv)) (hlx : xs.length ≤ 9223372036854775807) :
    Calls Tryd.prog 107 #[.slice A len ca] w fun e w' => e = .returned (viT (uvS 0 0 xs)) ∧ w = w' := by
  subst hl; exact varint_any A ca xs w hx hlx
theorem or_low {v x : Nat} (hv : v < 72057594037927936) (hx : x < 256) : bits .or .u64 ((v * 256 : Nat) : Int) (x : Int) = ((v * 256 + x : Nat) : Int) := by
  rw [u64_or_nat _ _ (by omega) (by omega), Nat.or_comm, show v * 256 = v * 2 ^ 8 from rfl, or_beside x v 8 (by omega), Nat.add_comm]
theorem ad_wrap (a : Nat) (z : Int) : IntKind.u64.wrap ((a : Int) + IntKind.u64.wrap z) = (ad a z : Int) := by rw [IntKind.wrap_u64, IntKind.wrap_u64]; unfold ad; omega
section
set_option maxHeartbeats 1600000
set_option maxRecDepth 100000
theorem tv_any (A : Option Addr) (c : Nat) (xs : Bs) (w : World) (hl : xs.length = 8) (hx : Rd w A (xs.map Bv)) :
    Calls Tryd.prog 109 #[.slice A 8 c] w fun e w' => e = .returned (.int .u64 (ofB xs : Nat)) ∧ w' = w := by
  go_enter Tryd.func109, Tryd.ntmps109
  go_wp2
  go_loopw [3, 8] (fun s3 s8 wr => ∃ k v : Nat, s8 = .int .i64 k ∧ s3 = .int .u64 (v : Nat) ∧ k ≤ 8 ∧ v < 256 ^ k ∧ wr = w ∧ Aside (v = ofB (xs.take k))) (fun _ s8 _ => 8 - (intOf s8).toNat)
  case atStart => exact ⟨0, 0, rfl, rfl, by omega, by decide, rfl, (show 0 = ofB (xs.take 0) by rw [List.take_zero]; rfl)⟩
  case round =>
    obtain ⟨k, v, rfl, rfl, hk, hv, rfl, E⟩ := hrel
    by_cases hlt : k < 8
    · obtain ⟨b, off, rfl, c0⟩ := hx.byte (k := k) (by omega)
      have hst := ofB_take xs (k := k) (by omega)
      have hb := (xs[k]'(by omega)).toNat_lt
      rw [← E.out] at hst
      generalize (xs[k]'(by omega)).toNat = x at c0 hst hb
      have hv2 : v < 72057594037927936 := Nat.lt_of_lt_of_le hv (by
        have : 256 ^ k ≤ 256 ^ 7 := Nat.pow_le_pow_right (by omega) (by omega)
        have e7 : 256 ^ 7 = 72057594037927936 := by decide
        omega)
      have hor := or_low hv2 hb
      have hv3 : v * 256 + x < 256 ^ (k + 1) := by rw [Nat.pow_succ]; omega
      have k0 : (0 : Int) ≤ (k : Int) := by omega
      have k1 : (k : Int) < 8 := by omega
      have w1 : IntKind.u64.wrap ((v : Int) * 256) = ((v * 256 : Nat) : Int) := by rw [IntKind.wrap_u64]; omega
      have w2 : (v : Int) * 256 = ((v * 256 : Nat) : Int) := by omega
      have HST := Lib.hid hst; have HV3 := Lib.hid hv3
      clear hst hv3 E hx hl
      generalize hm : v * 256 = m at hor w1 w2
      have HM := Lib.hid hm; clear hm
      go_wp2
      go_roundw
      case rel => exact ⟨k + 1, m + x, by go_num, rfl, by omega, (by rw [← HM.out]; exact HV3.out), (by first | rfl | trivial), (show Aside _ from (by rw [← HM.out]; exact HST.out.symm))⟩
      case measure => simp [intOf]; omega
    · obtain rfl : k = 8 := by omega
      have hE := E.out
      rw [List.take_of_length_le (by omega)] at hE
      subst hE
      go_wp2
      go_ret
      exact ⟨rfl, rfl⟩
/-- The two boxes that the closures share: the bytes, and how far they are read. -/
structure Rdg (w0 : World) (gb ga : Nat) (A : Option Addr) (c : Nat) (xs : Bs) (p : Nat) (w : World) : Prop where
  bx : w.heap[gb]? = some (.cells #[.slice A xs.length c] 30 (0, 0))
  at_ : w.heap[ga]? = some (.cells #[.int .i64 (p : Nat)] 3 (0, 0))
  rd : Rd w0 A (xs.map Bv)
  be : RowKit.Below w0.heap.size w0 w
  hi : w0.heap.size ≤ ga
  le : p ≤ xs.length
  lc : xs.length ≤ c
  sm : xs.length ≤ 1000000
theorem Rdg.moved {w0 w w' : World} {gb ga : Nat} {A : Option Addr} {c p : Nat} {xs : Bs} (h : Rdg w0 gb ga A c xs p w) (hb : RowKit.Below w.heap.size w w') : Rdg w0 gb ga A c xs p w' :=
  ⟨(hb.block _ (blk_lt h.bx)).trans h.bx, (hb.block _ (blk_lt h.at_)).trans h.at_, h.rd, h.be.trans (hb.mono h.be.size), h.hi, h.le, h.lc, h.sm⟩
theorem Rdg.set {w0 w : World} {gb ga : Nat} {A : Option Addr} {c p q : Nat} {xs : Bs} (h : Rdg w0 gb ga A c xs p w) (hne : gb ≠ ga) (hq : q ≤ xs.length) : Rdg w0 gb ga A c xs q (w.setCell ⟨ga, 0, none⟩ (.int .i64 (q : Nat))) :=
  ⟨(Below.heap_setCell _ _ _ _ hne).trans h.bx, set_blk h.at_ 0 _, h.rd, h.be.setCell (p := ⟨ga, 0, none⟩) h.hi _, h.hi, hq, h.lc, h.sm⟩
theorem Rdg.ne {w0 w : World} {gb ga : Nat} {A : Option Addr} {c p : Nat} {xs : Bs} (h : Rdg w0 gb ga A c xs p w) : gb ≠ ga := ne_blk h.bx h.at_ (by decide)
theorem next_any (w0 : World) (gb ga : Nat) (A : Option Addr) (c p last : Nat) (xs : Bs) (w : World) (h : Rdg w0 gb ga A c xs p w) (hl : last < 18446744073709551616) :
    Calls Tryd.prog 106 #[.int .u64 (last : Nat), .pointer (some ⟨gb, 0, none⟩), .pointer (some ⟨ga, 0, none⟩)] w fun e w' =>
      e = .returned (.tuple #[.int .u64 (ad last (if (uvS 0 0 (xs.drop p)).2.2 = 0 then zagN (uvS 0 0 (xs.drop p)).1 else 0) : Nat), .int .i64 ((uvS 0 0 (xs.drop p)).2.2 : Nat)]) ∧
      Rdg w0 gb ga A c xs (p + (uvS 0 0 (xs.drop p)).2.1) w' ∧ Mv (fun k => k = ga) w w' := by
  have hne := h.ne
  have hv := fun A2 (hr : Rd w A2 ((xs.drop p).map Bv)) => varint_len A2 (c - p) (xs.length - p) (xs.drop p) w (by rw [List.length_drop]) hr (by rw [List.length_drop]; have := h.sm; omega)
  have hle := uvS_le' (xs.drop p)
  have hlt := uvS_lt' (xs.drop p)
  rw [List.length_drop] at hle
  generalize uvS 0 0 (xs.drop p) = U at hv hle hlt ⊢
  obtain ⟨n, k, er⟩ := U
  simp only at hle hlt ⊢
  unfold viT at hv
  simp only at hv
  have hz : -9223372036854775808 ≤ (if er = 0 then zagN n else 0) ∧ (if er = 0 then zagN n else 0) < 9223372036854775808 := by
    have := zagN_range n hlt
    split <;> omega
  generalize (if er = 0 then zagN n else 0) = z at hv hz ⊢
  have ha := ad_wrap last z
  have hpk := h.le
  have hlc := h.lc
  have hrdw := h.rd.below h.be
  have b0 := cell_blk h.bx 0
  have a0 := cell_blk h.at_ 0
  have f0 := free_blk h.at_ 0
  simp only [List.getElem?_toArray, List.getElem?_cons_zero] at b0 a0
  have hset := h.set hne (q := p + k) (by omega)
  have hmv : Mv (fun i => i = ga) w (w.setCell ⟨ga, 0, none⟩ (.int .i64 ((p + k : Nat) : Int))) := Mv.setCell (S := fun i => i = ga) (Mv.refl _ w) (p := ⟨ga, 0, none⟩) (fun _ => rfl) _
  have hsm := h.sm
  have HV := Lib.hid hv; have HSET := Lib.hid hset; have HMV := Lib.hid hmv; have HRW := Lib.hid hrdw; have HA := Lib.hid ha
  have hp1 : (p : Int) ≤ (xs.length : Int) := by omega
  obtain ⟨D, hD⟩ : ∃ D, D = IntKind.u64.wrap z := ⟨_, rfl⟩
  have hD1 : IntKind.u64.wrap z = D := hD.symm
  have hD2 : IntKind.u64.wrap ((last : Int) + D) = (ad last z : Int) := by rw [hD]; exact ha
  generalize ad last z = Q at hD2 ⊢
  have HHH := Lib.hid h
  clear hv hset hmv h hrdw ha hD HA hlt hz
  go_enter Tryd.func106, Tryd.ntmps106
  go_wp2_with (first
    | (refine wpList_slice_any (o := ⟨some 12, _, _, _, _, _⟩) ?_ 30 (.tmp 10) (some (.tmp 11)) none ?_ 5 Tryd.underlying30 (by kernel_rfl) A xs.length c p xs.length ?_ ?_ ?_ hpk hlc ?_; rfl; rfl; rfl; exact .inl rfl; exact .inr ⟨rfl, rfl⟩; intro A2 hA2 hrd2)
    | fail)
  have hr2 := hrd2 _ (by rw [List.length_map]; exact hlc) HRW.out
  rw [← List.map_drop] at hr2
  have HR2 := Lib.hid hr2; clear hr2 hrd2 hA2
  refine (HV.out _ HR2.out).mono ?_
  rintro e w3 ⟨rfl, rfl⟩
  go_wp2
  go_ret2
  refine ⟨rfl, ?_, ?_⟩
  · exact HSET.out
  · exact HMV.out
theorem value_any (w0 : World) (gb ga : Nat) (A : Option Addr) (c p : Nat) (xs : Bs) (w : World) (h : Rdg w0 gb ga A c xs p w) :
    Calls Tryd.prog 108 #[.pointer (some ⟨gb, 0, none⟩), .pointer (some ⟨ga, 0, none⟩)] w fun e w' =>
      e = .returned (.tuple #[.int .u64 ((if (xs.drop p).length < 8 then 0 else ofB ((xs.drop p).take 8) : Nat) : Nat), .int .i64 ((if (xs.drop p).length < 8 then 6 else 0 : Nat) : Nat)]) ∧
      Rdg w0 gb ga A c xs (if (xs.drop p).length < 8 then p else p + 8) w' ∧ Mv (fun k => k = ga) w w' := by
  have hne := h.ne
  have hpk := h.le
  have hlc := h.lc
  have hsm := h.sm
  have b0 := cell_blk h.bx 0
  have a0 := cell_blk h.at_ 0
  have f0 := free_blk h.at_ 0
  simp only [List.getElem?_toArray, List.getElem?_cons_zero] at b0 a0
  have HHH := Lib.hid h
  rw [List.length_drop]
  by_cases h8 : xs.length - p < 8
  · rw [if_pos h8, if_pos h8, if_pos h8]
    have g8 : (xs.length : Int) - (p : Int) < 8 := by omega
    clear h
    go_enter Tryd.func108, Tryd.ntmps108
    go_wp2
    go_ret2
    exact ⟨rfl, HHH.out, Mv.refl _ _⟩
  · rw [if_neg h8, if_neg h8, if_neg h8]
    have g8 : ¬ (xs.length : Int) - (p : Int) < 8 := by omega
    have hset := h.set hne (q := p + 8) (by omega)
    have hmv : Mv (fun i => i = ga) w (w.setCell ⟨ga, 0, none⟩ (.int .i64 ((p + 8 : Nat) : Int))) := Mv.setCell (S := fun i => i = ga) (Mv.refl _ w) (p := ⟨ga, 0, none⟩) (fun _ => rfl) _
    have hrdw := h.rd.below hset.be
    have hl8 : ((xs.drop p).take 8).length = 8 := by rw [List.length_take, List.length_drop]; omega
    have hv := fun A2 c2 W hr => tv_any A2 c2 ((xs.drop p).take 8) W hl8 hr
    have q0 := cell_blk hset.at_ 0
    have q1 := cell_blk hset.bx 0
    simp only [List.getElem?_toArray, List.getElem?_cons_zero] at q0 q1
    generalize ofB ((xs.drop p).take 8) = V at hv ⊢
    have HV := Lib.hid hv; have HSET := Lib.hid hset; have HMV := Lib.hid hmv; have HRW := Lib.hid hrdw
    clear hv hset hmv h hrdw
    have e8 : ((p + 8 : Nat) : Int) = (p : Int) + 8 := by omega
    rw [e8] at q0 q1
    have m1 : (p : Int) + 8 - 8 = (p : Int) := by omega
    go_enter Tryd.func108, Tryd.ntmps108
    go_wp2_with (first
      | (refine wpList_slice_any (o := ⟨some 15, _, _, _, _, _⟩) ?_ 30 (.tmp 11) (some (.tmp 13)) (some (.tmp 14)) ?_ 5 Tryd.underlying30 (by kernel_rfl) A xs.length c p (p + 8) ?_ ?_ ?_ (by omega) (by omega) ?_; rfl; rfl; rfl; exact .inl rfl; exact .inl rfl; intro A2 hA2 hrd2)
      | fail)
    have hr2 := hrd2 _ (by rw [List.length_map]; exact hlc) HRW.out
    rw [← List.map_drop] at hr2
    have hr3 := hr2.bytes_take 8
    have HR2 := Lib.hid hr3; clear hr2 hr3 hrd2 hA2
    refine (HV.out _ _ _ HR2.out).mono ?_
    rintro e w3 ⟨rfl, rfl⟩
    go_wp2
    go_ret2
    refine ⟨rfl, ?_, ?_⟩
    · exact HSET.out
    · exact HMV.out
end
end Go.Proofs.YtgogpngobdafaaaDoor
