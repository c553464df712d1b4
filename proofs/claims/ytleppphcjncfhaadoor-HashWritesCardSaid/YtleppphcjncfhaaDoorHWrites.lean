/-
  HashWrites (P3.1): whatever is written, and cloned, and asked between: each sum is the plain answers'. The condition is the table's: it holds what its initialiser lays, which the card ties to the program's text.
-/
import Derived.Test.YtleppphcjncfhaaDoorHt
import Derived.Test.YtleppphcjncfhaaDoorHr
import Derived.Test.YtleppphcjncfhaaDoorRs2
import Derived.Test.YtleppphcjncfhaaDoorEq
import Derived.Deep.RegionHeld3
import Derived.Deep.DeepCutAuto
namespace Go.Proofs.YtleppphcjncfhaaDoor
set_option linter.unusedVariables false
set_option linter.unusedSimpArgs false
open Go.ChangeShapes Go.WideShapes Go.ChangeAt Go.RowKit

theorem join_one_at (w : World) (A : Option Addr) (ca n : Nat) (xs : List UInt8) (hn : xs.length = n) (hx : Rd w A (xs.map Bv)) (hl : n ≤ 140737488351232) :
    Calls Tryd.prog 17 #[.slice (some ⟨w.heap.size, 0, none⟩) 1 1] (w.alloc (.cells #[.slice A n ca] 28)) fun e w' =>
      ∃ v, e = .returned v ∧ w'.ownsRow (w.heap.size + 1) 5 1 v n (xs.map Bv) ∧ Below w.heap.size w w' := by
  subst hn; exact join_one w A ca xs hx hl
theorem write_x (w : World) (p : Nat) (xs : List UInt8) (hi : HashIs w p xs) (ht : AddsMet w) (hl : xs.length ≤ 99999000) :
    Calls Tryd.prog 20 #[.pointer (some ⟨p, 0, none⟩), .slice (some ⟨w.heap.size + 1, 0, none⟩) 1 1] ((w.alloc (.cells #[.int .u8 120] 5 (1, 2))).alloc (.cells #[.slice (some ⟨w.heap.size, 0, none⟩) 1 1] 28)) fun e w' =>
      e = .returned (.int .i64 0) ∧ Mv (fun k => k = p) w w' := by
  have hpl := hi.lt
  have hb := (Below.refl _ w).alloc (Nat.le_refl _) (.cells ([120].map Bv).toArray 5 (1, 2))
  have h := write_parts (w.alloc (.cells ([120].map Bv).toArray 5 (1, 2))) p xs [(some ⟨w.heap.size, 0, none⟩, 1, [120])] #[.slice (some ⟨w.heap.size, 0, none⟩) 1 1] 1 [120] rfl rfl rfl
    (fun q hq => by
      simp only [List.mem_cons, List.not_mem_nil, or_false] at hq
      subst hq
      exact ⟨rd_mark w ([120].map Bv) 5 (1, 2), Nat.le_refl 1, show (1 : Nat) ≤ 9223372036854775807 by decide⟩) (hi.below hb) (fun q hq k e => by
      simp only [List.mem_cons, List.not_mem_nil, or_false] at hq
      subst hq
      simp at e
      omega) (by simp; omega) (by decide) (ht.below hb)
  rw [World.size_alloc] at h
  refine h.mono ?_
  rintro e w' ⟨rfl, _, h2⟩
  exact ⟨rfl, (Mv.of_below hb _).trans h2 (fun _ _ h => h)⟩

/-- A row of the call's own and a text that is summed lie in two blocks. -/
theorem row_off_hash {w : World} {base n p : Nat} {v : Value} {xs : List Value} {l : List UInt8} (h : w.ownsRow base 5 1 v n xs) (hi : HashIs w p l) : v.ownBlock ≠ some p := by
  obtain ⟨R, hr, _⟩ := hi
  exact own_blk h hr.1 (by decide)
theorem own_mv_hash {w w' : World} {base n p : Nat} {v : Value} {xs : List Value} {l : List UInt8} (h : w.ownsRow base 5 1 v n xs) (hi : HashIs w p l) (hm : Mv (fun k => k = p) w w') : w'.ownsRow base 5 1 v n xs :=
  own_moved h (fun g hg => hm.block g (h.lt g hg).2 (fun e => row_off_hash h hi (by rw [← e]; exact hg)))
theorem own_below {w w' : World} {base n : Nat} {v : Value} {xs : List Value} (h : w.ownsRow base 5 1 v n xs) (hb : Below w.heap.size w w') : w'.ownsRow base 5 1 v n xs :=
  own_moved h (fun g hg => hb.block g (h.lt g hg).2)

theorem len_at (w : World) (p : Nat) (xs : List UInt8) (n : Nat) (hn : xs.length = n) (h : HashIs w p xs) : Calls Tryd.prog 22 #[.pointer (some ⟨p, 0, none⟩)] w fun e w' => e = .returned (.int .i64 (n : Nat)) ∧ w = w' := by
  subst hn; exact len_any w p xs h
section
set_option maxHeartbeats 1600000
set_option maxRecDepth 100000
theorem writes_walk (A : Option Addr) (c : Nat) (P : List (Option Addr × Nat × List UInt8)) (B : Option Addr) (cb : Nat) (cl : List Bool) (w : World) (ht : AddsMet w) (hx : RowsRd w A P) (hlc : P.length ≤ c) (hcm : c ≤ 9223372036854775807)
    (hc : Rd w B (cl.map Value.bool)) (hlb : cl.length ≤ cb) (hcb : cb ≤ 9223372036854775807) :
    Calls Tryd.prog 4 #[.slice A P.length c, .slice B cl.length cb] w fun e w' => e = .returned (.bool true) ∧ Below w.heap.size w w' := by
  have HT := Lib.hid ht; clear ht
  obtain ⟨n, hn⟩ : ∃ n, n = P.length := ⟨_, rfl⟩
  obtain ⟨m, hm⟩ : ∃ m, m = cl.length := ⟨_, rfl⟩
  rw [← hn] at hlc ⊢
  rw [← hm] at hlb ⊢
  have HN := Lib.hid hn; clear hn
  have HM := Lib.hid hm; clear hm
  have hlm : n ≤ 9223372036854775807 := by omega
  have HX := Lib.hid hx; clear hx
  have HCL := Lib.hid hc; clear hc
  go_enter Tryd.func4, Tryd.ntmps4
  go_wp2_with fail
  refine (new_any w).mono ?_
  rintro e w1 ⟨rfl, hi1, hb1⟩
  have ht1 := HT.out.below hb1
  have HT1 := Lib.hid ht1; clear ht1
  go_wp2_with fail
  refine (live_any w1 HT1.out).mono ?_
  rintro e w2 ⟨rfl, hb2⟩
  have hi2 := hi1.below hb2
  have hb2' := hb1.trans (hb2.mono hb1.size)
  have HI2 := Lib.hid hi2; clear hi2 hi1 hb2 hb1 HT1
  have hx2 := HX.out.below hb2'
  go_wp2_with fail
  refine (short_any w2 A c n P HN.out.symm hx2.1 hlm).mono ?_
  rintro e w3 ⟨rfl, rfl⟩
  clear hx2
  cases hs : shortB P with
  | false =>
    clear hs
    have ht2 := HT.out.below hb2'
    have HT2 := Lib.hid ht2; clear ht2
    go_wp2_with fail
    refine (live_any w2 HT2.out).mono ?_
    rintro e w3 ⟨rfl, hb3⟩
    have hb3' := hb2'.trans (hb3.mono hb2'.size)
    go_wp2
    go_ret
    exact ⟨rfl, hb3'⟩
  | true =>
    have hjl := joined_short hs
    have hP30 := (shortB_spec hs).2
    clear hs
    have HJL := Lib.hid hjl; clear hjl
    have hb3 := hb2'.alloc hb2'.size (.cells #[] 5)
    have hi3 : HashIs (w2.alloc (.cells #[] 5)) w.heap.size [] := HI2.out.below ((Below.refl _ w2).alloc (Nat.le_refl _) _)
    have ho3 : (w2.alloc (.cells #[] 5)).ownsRow w.heap.size 5 1 (.slice (some ⟨w2.heap.size, 0, none⟩) 0 0) 0 [] := (own_empty w2 5).lower hb2'.size
    have HI3 := Lib.hid hi3; clear hi3
    have HO3 := Lib.hid ho3; clear ho3
    have hn60 : n ≤ 30 := by rw [HN.out]; exact hP30
    clear hP30 HI2
    go_wp2
    go_loopw [5, 6, 29] (fun v5 v6 i wr => ∃ k p : Nat, k ≤ n ∧ i = .int .i64 k ∧ v5 = .pointer (some ⟨p, 0, none⟩) ∧ w.heap.size ≤ p ∧ HashIs wr p (joined (P.take k)) ∧ wr.ownsRow w.heap.size 5 1 v6 (joined (P.take k)).length ((joined (P.take k)).map Bv) ∧ Below w.heap.size w wr) (fun _ _ i _ => n - (intOf i).toNat)
    case atStart => exact ⟨0, w.heap.size, by omega, rfl, rfl, Nat.le_refl _, by simpa [joined] using HI3.out, by simpa [joined] using HO3.out, hb3⟩
    case round =>
      clear hb3 HI3 HO3 hb2'
      obtain ⟨k, p, hk, rfl, rfl, hwp, hi, hown, hb⟩ := hrel
      by_cases hlt : k < n
      · have hkP : k < P.length := by rw [← HN.out]; exact hlt
        have hxr := HX.out.below hb
        obtain ⟨gS, offS, hSe, hcS⟩ := hxr.1 k (partV P[k]) (by simp [hkP])
        subst hSe
        obtain ⟨hrd, hlk, hck⟩ := hxr.2 P[k] (List.getElem_mem hkP)
        have hrdw := (HX.out.2 P[k] (List.getElem_mem hkP)).1
        have hjs := joined_succ hkP
        have hjl2 := joined_le (P := P) (k + 1)
        have hjl3 := HJL.out
        obtain ⟨J, hJ⟩ : ∃ J, J = joined (P.take k) := ⟨_, rfl⟩
        obtain ⟨J', hJ'⟩ : ∃ J', J' = joined (P.take (k + 1)) := ⟨_, rfl⟩
        rw [← hJ] at hi hown hjs
        rw [← hJ'] at hjs hjl2
        generalize P[k] = pk at *
        obtain ⟨Ak, ck, ys⟩ := pk
        simp only [partV] at hcS hrd hlk hck hjs hrdw
        obtain ⟨A6, c6, rfl, rd6, hA6, hn6, hm6⟩ := own_rd hown
        obtain ⟨jn, hjn⟩ : ∃ jn, jn = J.length := ⟨_, rfl⟩
        obtain ⟨yn, hyn⟩ : ∃ yn, yn = ys.length := ⟨_, rfl⟩
        have hj1 : J'.length = jn + yn := by rw [hjs, List.length_append, hjn, hyn]
        rw [← hjn] at hown hn6 ⊢
        rw [← hyn] at hcS hlk
        have hjb : jn + yn ≤ 60000 := by omega
        have HJ := Lib.hid hJ; clear hJ
        have HJ' := Lib.hid hJ'; clear hJ'
        have HJN := Lib.hid hjn; clear hjn
        have HYN := Lib.hid hyn; clear hyn
        have HJS := Lib.hid hjs; clear hjs
        have HJ1 := Lib.hid hj1; clear hj1 hjl2 hjl3
        have HRDW := Lib.hid hrdw; clear hrdw
        have HI := Lib.hid hi; clear hi
        have HOWN := Lib.hid hown; clear hown hrd hxr rd6 hA6
        obtain ⟨bb, hbb⟩ : ∃ bb : Bool, bb = (decide (k < m) && cl.getD k false) := ⟨_, rfl⟩
        go_upto_region 8 with (fail)
        go_cut [43] (fun s43 wx => s43 = .bool bb ∧ wx = wr)
        case first =>
          by_cases hkm : k < m
          · have hkc : k < cl.length := by rw [← HM.out]; exact hkm
            obtain ⟨gB, offB, rfl, hcB⟩ := (HCL.out.below hb) k (Value.bool cl[k]) (by simp [hkc])
            have hbe : bb = cl[k] := by rw [hbb, decide_eq_true hkm]; simp [List.getD, hkc]
            rw [← hbe] at hcB
            clear hbe hbb
            go_wp2_with fail
            go_meet
            exact ⟨rfl, rfl⟩
          · have hbe : bb = false := by rw [hbb, decide_eq_false hkm]; rfl
            have hdk : decide ((k : Int) < (m : Int)) = false := by simp; omega
            subst hbe
            clear hbb
            go_wp2_with fail
            go_meet
            exact ⟨rfl, rfl⟩
        case rest =>
          obtain ⟨rfl, rfl⟩ := hcut
          clear hbb
          go_upto_if 43 with (fail)
          go_cut [5] (fun v5 wx => ∃ p', v5 = .pointer (some ⟨p', 0, none⟩) ∧ w.heap.size ≤ p' ∧ HashIs wx p' J ∧ wx.ownsRow w.heap.size 5 1 (.slice A6 jn c6) jn (J.map Bv) ∧ Below w.heap.size w wx)
          case first =>
            cases bb with
            | false =>
              go_wp2_with fail
              go_meet
              exact ⟨p, rfl, hwp, HI.out, HOWN.out, hb⟩
            | true =>
              go_wp2_with fail
              refine (clone_any _ p J HI.out).mono ?_
              rintro e w4 ⟨rfl, hi4, hb4⟩
              have hio := HI.out.below hb4
              have how4 := own_below HOWN.out hb4
              have hb4' := hb.trans (hb4.mono hb.size)
              have ht4 := HT.out.below hb4'
              have hplt := HI.out.lt
              have hws := hb.size
              have hio2 := hio
              have HIO := Lib.hid hio; clear hio
              have HI4 := Lib.hid hi4; clear hi4
              have HO4 := Lib.hid how4; clear how4
              have HT4 := Lib.hid ht4; clear ht4
              have hcv := lit_bytes w4 #[.int .u8 120] 1 1
              clear hio2
              go_wp2_with fail
              clear hcv
              refine (write_x w4 p J HIO.out HT4.out (by have := HJN.out; omega)).mono ?_
              rintro e w5 ⟨rfl, hm5⟩
              have hi5 := HI4.out.mv hm5 (by omega)
              have ho5 := own_mv_hash HO4.out HIO.out hm5
              have hb5 := hb4'.trans (hm5.belowB hb4'.size (fun k hk e => by omega))
              have HI5 := Lib.hid hi5; clear hi5
              have HO5 := Lib.hid ho5; clear ho5
              go_wp2_with fail
              go_meet
              exact ⟨_, rfl, by omega, HI5.out, HO5.out, hb5⟩
          case rest =>
            obtain ⟨p', rfl, hwp', hi', hown', hb'⟩ := hcut
            have hrdk := HRDW.out.below hb'
            have hj := join_one_at wc Ak ck yn ys HYN.out.symm hrdk (by omega)
            have hp5 := hi'.lt
            have hlo6 : ∀ g, (Value.slice A6 jn c6).ownBlock = some g → g < wc.heap.size := fun g hg => (hown'.lt g hg).2
            have HJO := Lib.hid hj; clear hj hrdk
            have HI' := Lib.hid hi'; clear hi'
            have HO' := Lib.hid hown'; clear hown'
            have HLO6 := Lib.hid hlo6; clear hlo6
            clear HI HOWN hb
            go_wp2_with fail
            refine HJO.out.mono ?_
            rintro e w5 ⟨v5, rfl, own5, hb5⟩
            obtain ⟨A10, c10, rfl, rd10, hA10, hn10, hm10⟩ := own_rd own5
            unfold maxLen at hm10
            have hi5 := HI'.out.below hb5
            have ho5 := own_below HO'.out hb5
            have hB5 := hb'.trans (hb5.mono hb'.size)
            have ht5 := HT.out.below hB5
            have hoff : ∀ q, A10.map (·.block) = some q → wc.heap.size + 1 ≤ q := fun q hq => (own5.lt q (by rw [← hA10]; exact hq)).1
            have HA10 := Lib.hid hA10; clear hA10
            have HOFF := Lib.hid hoff; clear hoff
            have HI5 := Lib.hid hi5; clear hi5
            have HO5 := Lib.hid ho5; clear ho5
            have HT5 := Lib.hid ht5; clear ht5
            have HW5 := Lib.hid own5; clear own5
            have HR10 := Lib.hid rd10; clear rd10
            have hws := hb'.size
            clear hb5 HJO HI' HO' hb'
            have hwr := write_parts w5 p' J [(A10, c10, ys)] #[.slice A10 yn c10] 1 ys (by simp [partV, HYN.out]) rfl (by simp [joined])
              (fun q hq => by
                simp only [List.mem_cons, List.not_mem_nil, or_false] at hq
                subst hq
                exact ⟨HR10.out, by rw [← HYN.out]; exact hn10, hm10⟩) HI5.out (fun q hq k e => by
                simp only [List.mem_cons, List.not_mem_nil, or_false] at hq
                subst hq
                have := HOFF.out k e
                omega) (by rw [← HJN.out, ← HYN.out]; omega) (by decide) HT5.out
            have HWR := Lib.hid hwr; clear hwr
            go_wp2_with fail
            refine HWR.out.mono ?_
            rintro e w6 ⟨rfl, hi6, hm6⟩
            rw [← HJS.out] at hi6
            have own6 := own_mv_hash HW5.out HI5.out hm6
            have ho6 := own_mv_hash HO5.out HI5.out hm6
            have hB6 := hB5.trans (hm6.belowB hB5.size (fun k hk e => by omega))
            have rdk6 := HRDW.out.below hB6
            have rd106 := Mv.rd1 hm6 HR10.out (fun _ k e => by have := HOFF.out k e; omega)
            have heq := equal_yes A10 Ak c10 ck yn yn ys ys w6 rfl HYN.out.symm HYN.out.symm rd106 rdk6 (by rw [← HYN.out]; omega)
            have HE := Lib.hid heq; clear heq
            have HI6 := Lib.hid hi6; clear hi6
            have HW6 := Lib.hid own6; clear own6
            have HO6 := Lib.hid ho6; clear ho6
            clear HW5 HO5 HI5 HT5 HR10 HWR hm6 rdk6 rd106 hB5
            go_wp2_with fail
            refine HE.out.mono ?_
            rintro e w7 ⟨rfl, mm, rfl⟩
            have hi7 : HashIs (w6.drewN mm) p' J' := HI6.out
            have own7 : (w6.drewN mm).ownsRow (wc.heap.size + 1) 5 1 (.slice A10 yn c10) yn (ys.map Bv) := HW6.out
            have ho7 : (w6.drewN mm).ownsRow w.heap.size 5 1 (.slice A6 jn c6) jn (J.map Bv) := HO6.out
            have hB7 := below_drewN hB6 mm
            have HI7 := Lib.hid hi7; clear hi7
            have HW7 := Lib.hid own7; clear own7
            have HO7 := Lib.hid ho7; clear ho7
            clear HI6 HW6 HO6 HE hB6
            generalize w6.drewN mm = w7 at *
            go_wp2_with fail
            go_loopw [70] (fun i wr => ∃ (j : Nat) (zs : List UInt8), j ≤ yn ∧ i = .int .i64 j ∧ zs.length = yn ∧ wr.ownsRow (wc.heap.size + 1) 5 1 (.slice A10 yn c10) yn (zs.map Bv) ∧ Mv (fun b => A10.map (·.block) = some b) w7 wr) (fun i _ => yn - (intOf i).toNat)
            case atStart => exact ⟨0, ys, by omega, rfl, HYN.out.symm, HW7.out, Mv.refl _ _⟩
            case round =>
              obtain ⟨j, zs, hj, rfl, hzs, hownz, hmv⟩ := hrel
              by_cases hlj : j < yn
              · have hyn0 : 0 < yn := by omega
                obtain ⟨g, rfl⟩ : ∃ g, A10 = some ⟨g, 0, none⟩ := by
                  rcases hownz.2 with ⟨h0, _⟩ | ⟨g, cap, cur, h0, _⟩
                  · simp at h0; omega
                  · simp at h0; exact ⟨g, h0.1⟩
                have hjz : j < zs.length := by omega
                have hcz := hownz.cells (g := g) rfl j (Bv zs[j]) (by simp [hjz])
                rw [add_flat] at hcz
                change wr.cell? ⟨g, j, none⟩ = some (.int .u8 (zs[j].toNat : Int)) at hcz
                have hfz := hownz.frozenAt j
                have hz8 := zs[j].toNat_lt
                have hxo : bits .xor .u8 (zs[j].toNat : Int) 255 = ((zs[j].toNat ^^^ 255 : Nat) : Int) := u8_xor_nat zs[j].toNat 255 hz8 (by decide)
                have hx8 : zs[j].toNat ^^^ 255 < 256 := Nat.xor_lt_two_pow (n := 8) hz8 (by decide)
                have hst : ∀ y : Nat, y = zs[j].toNat ^^^ 255 → (zs.map Bv).set j (.int .u8 (y : Int)) = (zs.set j (UInt8.ofNat y)).map Bv := fun y hy => by
                  rw [List.map_set, ← byte_of rfl (by rw [hy]; exact hx8)]
                have hstl : ∀ y : UInt8, (zs.set j y).length = yn := fun y => by rw [List.length_set]; exact hzs
                have HST := Lib.hid hst; clear hst
                have HSTL := Lib.hid hstl; clear hstl
                have HWZ := Lib.hid hownz; clear hownz
                generalize zs[j].toNat = z at *
                go_wp2
                go_roundw
                case rel =>
                  refine ⟨j + 1, _, by omega, by go_num, HSTL.out (UInt8.ofNat (z ^^^ 255)), ?_, hmv.setCell (p := ⟨g, j, none⟩) (fun _ => rfl) _⟩
                  try rw [hxo]
                  rw [← HST.out _ rfl]
                  exact (HWZ.out.stored j _).1
                case measure => simp [intOf]; omega
              · obtain ⟨w8, rfl⟩ : ∃ w8, w8 = wr := ⟨_, rfl⟩
                have hi8 := HI7.out.mv hmv (fun e => by have := HOFF.out p' e; omega)
                have ho8 := own_moved HO7.out (fun g hg => hmv.block g (HO7.out.lt g hg).2 (fun e => by have := HOFF.out g e; have := HLO6.out g hg; omega))
                have hB8 := hB7.trans (hmv.belowB hB7.size (fun q hq e => by have := HOFF.out q e; omega))
                have rdk8 := HRDW.out.below hB8
                obtain ⟨A66, c66, he66, rd66, _⟩ := own_rd ho8
                obtain ⟨rfl, rfl⟩ : A66 = A6 ∧ c66 = c6 := by simp at he66; exact ⟨he66.1.symm, he66.2.symm⟩
                have hj2 := join_two_at w8 A66 Ak c66 ck jn yn J ys J' HJS.out.symm HJN.out.symm HYN.out.symm rd66 rdk8 (by omega)
                have HI8 := Lib.hid hi8; clear hi8
                have HJ2 := Lib.hid hj2; clear hj2
                clear HI7 HO7 HW7 hownz hmv ho8 rdk8 rd66 hB7 he66
                go_wp2_with fail
                refine HJ2.out.mono ?_
                rintro e w9 ⟨v9, rfl, own9, hb9⟩
                have hi9 := HI8.out.below hb9
                have hB9 := hB8.trans (hb9.mono hB8.size)
                have own9' := own9.lower (base' := w.heap.size) hB8.size
                have ht9 := HT.out.below hB9
                obtain ⟨tn, htn⟩ : ∃ tn, tn = jn + yn := ⟨_, rfl⟩
                have hj1 := HJ1.out
                rw [← htn] at own9' hj1 hjb
                have HTN := Lib.hid htn; clear htn
                obtain ⟨A9, c9, rfl, rd9, _, hn9, hm9⟩ := own_rd own9'
                have HI9 := Lib.hid hi9; clear hi9
                have HO9 := Lib.hid own9'; clear own9'
                have HT9 := Lib.hid ht9; clear ht9
                have HJL1 := Lib.hid hj1; clear hj1
                clear own9 hb9 HJ2 HI8 hB8 rd9
                go_wp2_with fail
                refine (hsum_any w9 p' J' HI9.out HT9.out (by rw [HJL1.out]; omega)).mono ?_
                rintro e wa ⟨rfl, hba⟩
                have hia := HI9.out.below hba
                have hBa := hB9.trans (hba.mono hB9.size)
                have hoa := own_below HO9.out hba
                obtain ⟨sl, hsl2⟩ : ∃ sl, sl = sha J' := ⟨_, rfl⟩
                rw [← hsl2]
                have hsl : sl.length = 32 := by rw [hsl2]; exact sha_length _
                obtain ⟨cm, hcm'⟩ : ∃ cm, cm = sl.map Bv := ⟨_, rfl⟩
                have hcn : cm.length = 32 := by rw [hcm', List.length_map, hsl]
                have hone : ∀ v ∈ cm, v.oneCell' = true := by rw [hcm']; exact bytes_one _
                unfold sumV
                rw [← hcm']
                have HIA := Lib.hid hia; clear hia
                have HOA := Lib.hid hoa; clear hoa
                have HSL := Lib.hid hsl; clear hsl
                have HS2 := Lib.hid hsl2; clear hsl2
                have HCM := Lib.hid hcm'; clear hcm'
                have HCN := Lib.hid hcn; clear hcn
                have HON := Lib.hid hone; clear hone
                clear hba HI9 HO9 HT9 hB9
                go_wp2_with (first
                  | (refine wpList_store_agg (o := ⟨none, _, _, _, _, _⟩) ?_ 25 (.tmp 12) (.tmp 85) ?_ wa.heap.size 0 cm ?_ ?_ 25 _ (heap_alloc_new wa _) ?_ ?_ HON.out ?_; rfl; rfl; rfl; rfl; (rw [HCN.out]; kernel_rfl); (rw [HCN.out]; decide); intro wb hgb hmb hsb)
                  | fail)
                obtain ⟨hgb', hbb, hzb⟩ := fresh_store hgb hmb hsb HCN.out
                have hBb := hBa.trans (hbb.mono hBa.size)
                have hib := HIA.out.below hbb
                have hob := own_below HOA.out hbb
                obtain ⟨A99, c99, he99, rdb, _⟩ := own_rd hob
                obtain ⟨rfl, rfl⟩ : A99 = A9 ∧ c99 = c9 := by simp at he99; exact ⟨he99.1.symm, he99.2.symm⟩
                have HGB := Lib.hid hgb'; clear hgb' hgb hmb hsb
                have HIB := Lib.hid hib; clear hib
                have HOB := Lib.hid hob; clear hob
                have HRB := Lib.hid rdb; clear rdb
                clear HIA HOA hBa hbb he99
                have hrs := rsum_any wb.drew A99 c99 tn J' HJL1.out (show Rd wb.drew A99 (J'.map Bv) from HRB.out) (by omega)
                rw [← HS2.out] at hrs
                have HRS := Lib.hid hrs; clear hrs
                have HBB := Lib.hid hBb
                clear HRB hBb
                have HBW := Lib.hid HOB.out
                clear HOB
                go_region_held3 (fun _ => True) (exact trivial) (first
                  | (go_at_call 16; (with_reducible refine HRS.out.mono ?_); rintro e wc2 ⟨vc, rfl, ownc, hbc⟩; obtain ⟨Ac, cc, rfl, rdc, _, hnc, hmc⟩ := own_rd ownc; have hgc := (hbc.block wa.heap.size (blk_lt HGB.out)).trans HGB.out; have hrdc : Rd wc2 (some ⟨wa.heap.size, 0, none⟩) (sl.map Bv) := (by rw [← HCM.out]; intro k v hv; exact ⟨_, 0, rfl, by rw [cell_blk hgc, Nat.zero_add]; simpa using hv⟩); have hic := (show HashIs wb.drew p' J' from HIB.out).below hbc; have HEQ := Lib.hid (equal_yes (some ⟨wa.heap.size, 0, none⟩) Ac 32 cc 32 32 sl sl wc2 rfl HSL.out HSL.out hrdc rdc (by rw [HSL.out]; decide)); have HIC := Lib.hid hic; have HBC := Lib.hid hbc; clear hgc ownc hic hrdc rdc hbc)
                  | (go_at_call 15; (with_reducible refine HEQ.out.mono ?_); rintro e wd ⟨rfl, m3, rfl⟩; have HLN := Lib.hid (len_at (wc2.drewN m3) p' J' tn HJL1.out (show HashIs (wc2.drewN m3) p' J' from HIC.out)))
                  | (go_at_call 22; (with_reducible refine HLN.out.mono ?_); rintro e we ⟨rfl, rfl⟩))
                all_goals
                  have b5 : Below wb.heap.size wb (wc2.drewN m3) := below_drewN (show Below wb.heap.size wb wc2 from ⟨HBC.out.os, HBC.out.tape, HBC.out.output, HBC.out.size, HBC.out.block⟩) m3
                  have hix := HIB.out.below b5
                  have hox := own_below HBW.out b5
                  have hBx := HBB.out.trans (b5.mono HBB.out.size)
                  have hj1 := HJL1.out
                  rw [HJ'.out] at hix hox hj1
                  have HIX := Lib.hid hix; clear hix
                  have HOX := Lib.hid hox; clear hox
                  have HJX := Lib.hid hj1; clear hj1
                  have HBX := Lib.hid hBx; clear hBx
                  clear b5
                  go_wp2
                  go_roundw
                  case rel => exact ⟨k + 1, p', by omega, by go_num, rfl, hwp', HIX.out, by rw [HJX.out]; exact HOX.out, HBX.out⟩
                  case measure => simp [intOf]; omega
      · have hkl : P.take k = P := List.take_of_length_le (by have := HN.out; omega)
        clear hi hown
        go_wp2
        go_ret
        exact ⟨rfl, hb⟩

theorem hashWrites_contract (H : Type) (enc : TypeId × Value → H) (W : World) (base : Nat) (args : Array Value) (ds gs : List (DataW H)) (before : List MemPlace)
    (hval : ∀ (j : Nat) t v, Tryd.f4.params[j]? = some t → args[j]? = some v → Value.okWide Tryd.prog W .any base t v)
    (hW : DataW.Whole enc Tryd.prog Tryd.f4.params.toList Rows.hashWritesSpec.vars false W args.toList ds gs before) (hL : laidMetH Tryd.prog Rows.hashWritesRow.laid W) :
    Calls Tryd.prog 4 args W fun e W' => ∃ v, e = .returned v ∧ Rows.hashWritesSpec.post enc Tryd.prog Tryd.f4 false true false false W args v W' := by
  have hW' := hW
  obtain ⟨p, q, hA0, hV, rfl, hfz, hnd⟩ := hW
  have hA : DataW.TrodAll enc Tryd.prog W 0 (fun _ => true) true Tryd.f4.params.toList args.toList ds p := hA0
  rw [Tryd.params4] at hA hval
  obtain ⟨v0, vs0, d0, ds0, p0, q0, hargs, rfl, rfl, h0, r0⟩ := trodAll_cons hA
  obtain ⟨v1, vs1, d1, ds1, p1, q1, rfl, rfl, rfl, h1, r1⟩ := trodAll_cons r0
  obtain ⟨rfl, rfl, rfl⟩ := trodAll_nil r1
  obtain rfl : args = #[v0, v1] := by cases args; simp_all
  obtain ⟨rfl, rfl⟩ := trodVars_none hV
  obtain ⟨A0, c0, xs0, rfl, hm0, hx0⟩ := open_rows (hval 0 22 v0 rfl rfl) h0
  obtain ⟨A1, c1, xs1, rfl, hm1, hx1⟩ := open_rd_bools Tryd.underlying32 Tryd.underlying4 (by kernel_rfl) (hval 1 32 v1 rfl rfl) h1
  clear hA0 hA
  unfold maxLen at hm0
  unfold maxLen at hm1
  refine (writes_walk A0 c0 xs0 A1 c1 xs1 W (table hL) hx0 hm0.1 (by omega) hx1 hm1.1 (by omega)).mono fun e W' ⟨he, hg⟩ => ?_
  subst he
  exact ⟨_, rfl, law_end laidOut (by kernel_rfl) (by kernel_rfl) Tryd.underlying4 rfl hW' ⟨rfl, rfl, rfl⟩ hg⟩

theorem hashWrites_met (os : Os) : laidMet Tryd.prog Rows.hashWritesRow.laid ((laidWorld os).forCall (fun _ _ => 0) ⟨#[], #[.slice none 0 0, .slice none 0 0], []⟩).memory :=
  laidMet_of_run' 8 (by kernel_rfl) (by kernel_rfl)
theorem hashWrites_reads (os : Os) {H : Type} (enc : TypeId × Value → H) : ∃ places, DataW.whole enc Tryd.prog ((laidWorld os).forCall (fun _ _ => 0) ⟨#[], #[.slice none 0 0, .slice none 0 0], []⟩).memory Tryd.f4.params.toList Rows.hashWritesSpec.vars false (#[.slice none 0 0, .slice none 0 0] : Array Value).toList 8 = some ([.nil, .nil], [], places) :=
  ⟨[], by kernel_rfl⟩

set_option maxRecDepth 100000 in
theorem hashWrites_lifted (os : Os) (started : os.Started) (H : Type) (enc : TypeId × Value → H) (F : Stop.Interp) :
    ReturnsInHanded {} Tryd.checked os 4 .any ((OpenSpec.ofChange Rows.hashWritesSpec).preRow enc Tryd.prog Tryd.f4 Rows.hashWritesRow.domain false Rows.hashWritesRow.laid) (((OpenSpec.ofChange Rows.hashWritesSpec).at F).post enc Tryd.prog Tryd.f4 false true false false) := by
  obtain ⟨places, hx⟩ := hashWrites_reads os enc
  refine returnsInHanded_of_row (C := Tryd.checked) (s := OpenSpec.ofChange Rows.hashWritesSpec) ownKn started (by kernel_rfl) Tryd.func4
    (witness_row_at (enc := enc) (C := Tryd.checked) false (laidWorld os) #[.slice none 0 0, .slice none 0 0] rfl (by kernel_rfl) (by kernel_rfl) (by kernel_rfl)
      (OpenSpec.preRow_of_cond 8 hx (by kernel_rfl) (fun k hk => by cases hk) (by kernel_rfl) (hashWrites_met os))) ?_
  intro W base args ds gs before hval hW _ _ _ hL _ _
  exact hashWrites_contract H enc W base args ds gs before hval hW hL

theorem hashWrites_said : Rows.HashWritesSaid :=
  OpenClaim.holds_of_cond 4 Tryd.f4 rfl rfl rfl rfl rfl rfl rfl ⟨rfl, rfl, rfl, rfl, rfl⟩ rfl rfl rfl rfl rfl (by kernel_rfl) Tryd.func4 (by kernel_rfl)
    (of_decide_eq_true (by kernel_rfl)) (by unfold Func.isWrapper; first | (rw [if_pos (by decide +kernel)]; kernel_rfl) | (rw [if_neg (by decide +kernel)]; exact ⟨rfl, rfl⟩))
    (fun os started H enc _ F => by rw [OpenClaim.pre_eq_preRow]; exact hashWrites_lifted os started H enc F)

theorem hashWrites_plain (f : FuncId) (fn : Func) (hf : Tryd.pinned.checked.prog.funcNamed "manometer/manometerlaw03.HashWrites" = some f) (hfn : Tryd.pinned.checked.prog.funcs[f]? = some fn) :
    false = Tryd.pinned.checked.prog.looks [] ∧ ∀ (j : Nat) t, fn.params[j]? = some t → Tryd.pinned.checked.prog.wantsStandIn t = false := by
  obtain rfl : f = 4 := Option.some.inj ((show Tryd.prog.funcNamed "manometer/manometerlaw03.HashWrites" = some 4 by kernel_rfl).symm.trans hf) |>.symm
  obtain rfl : fn = Tryd.f4 := (Option.some.inj (Tryd.func4.symm.trans hfn)).symm
  refine ⟨by kernel_rfl, fun j t ht => ?_⟩
  rw [Tryd.params4] at ht
  have hm : t = 22 ∨ t = 32 := by simpa using Array.mem_of_getElem? ht
  rcases hm with rfl | rfl
  · exact (show Tryd.prog.wantsStandIn 22 = false by kernel_rfl)
  · exact (show Tryd.prog.wantsStandIn 32 = false by kernel_rfl)

theorem hashWrites_card : Rows.HashWritesCardSaid :=
  Claim7.holds_tied_plain_at .later [] _ _ _ _ hashWrites_said (fun _ h => by cases h) (by kernel_rfl) (fun _ h => by cases h) hashWrites_row_tie rfl ⟨rfl, rfl⟩ (by kernel_rfl) rfl hashWrites_plain (by kernel_rfl)
#print axioms hashWrites_card
end
end Go.Proofs.YtleppphcjncfhaaDoor
