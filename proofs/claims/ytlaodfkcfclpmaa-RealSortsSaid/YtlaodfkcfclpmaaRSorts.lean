/-
  RealSorts (P4.9): of every list of values what is sorted has all of them, in order. No condition.
-/
import Derived.Test.YtlaodfkcfclpmaaOu
import Derived.Test.YtlaodfkcfclpmaaFst
namespace Go.Proofs.Ytlaodfkcfclpmaa
set_option linter.unusedVariables false
set_option linter.unusedSimpArgs false
open Go.ChangeShapes Go.WideShapes Go.ChangeAt Go.RowKit

section
set_option maxHeartbeats 1600000
set_option maxRecDepth 100000
theorem Rd.ue {w : World} {A : Option Addr} {xs : List UInt64} (h : Rd w A (xs.map Ue)) {k : Nat} (hk : k < xs.length) :
    ∃ b off, A = some ⟨b, off, none⟩ ∧ w.cell? ⟨b, off + k, none⟩ = some (.int .u64 (xs[k].toNat : Int)) :=
  h k (Ue xs[k]) (by simp [hk])
theorem count_next {xs : List UInt64} {t : Nat} (h : t < xs.length) (v : UInt64) : (xs.take (t + 1)).count v = (xs.take t).count v + if xs[t] = v then 1 else 0 := by
  rw [List.take_succ_eq_append_getElem h, List.count_append]
  congr 1
  by_cases he : xs[t] = v
  · rw [if_pos he, he]; simp
  · rw [if_neg he, List.count_eq_zero]; simp; exact fun e => he e.symm
theorem ue_eq {a b : UInt64} : (((a.toNat : Nat) : Int) == ((b.toNat : Nat) : Int)) = decide (a = b) := by
  rw [Bool.beq_eq_decide_eq]
  apply decide_eq_decide.2
  constructor
  · intro h; exact UInt64.toNat_inj.1 (by omega)
  · intro h; rw [h]
theorem sorts_walk (A : Option Addr) (c : Nat) (xs : List UInt64) (w : World) (hx : Rd w A (xs.map Ue)) (hlm : xs.length ≤ 9223372036854775807) :
    Calls Try.prog 9 #[.slice A xs.length c] w fun e w' => e = .returned (.bool true) ∧ Below w.heap.size w w' := by
  obtain ⟨N, hN⟩ : ∃ N, N = xs.length := ⟨_, rfl⟩
  have hst := fun (W : World) (h : Rd W A (xs.map Ue)) (h2 : N ≤ 1000) => sort_any A c xs W h (by omega)
  rw [← hN] at hlm hst ⊢
  have HN := Lib.hid hN; clear hN
  have HX := Lib.hid hx; clear hx
  have HST := Lib.hid hst; clear hst
  by_cases hbig : (N : Int) ≤ 300
  · have hd : decide (300 < (N : Int)) = false := by simp; omega
    go_enter Try.func9, Try.ntmps9
    go_wp2_with fail
    refine (live_any _).mono ?_
    rintro e w1 ⟨rfl, nl, rfl⟩
    go_wp2_with fail
    refine (HST.out (w.drewN nl) (HX.out.drewN _) (by omega)).mono ?_
    rintro e W ⟨A', c', ys, rfl, hyl, hyp, hyo, hyr, hyb⟩
    have HB := Lib.hid (show Below w.heap.size w W from (below_drewN (Below.refl _ w) nl).trans hyb)
    have HXW := Lib.hid ((HX.out.drewN nl).below hyb)
    clear hyb
    have HYL := Lib.hid hyl; clear hyl
    have HYP := Lib.hid hyp; clear hyp
    have HYO := Lib.hid hyo; clear hyo
    have HYR := Lib.hid hyr; clear hyr
    go_wp2
    go_loopw [26] (fun i wr => ∃ k q : Nat, k ≤ N ∧ i = .int .i64 k ∧ wr = W.drewN q) (fun i _ => N - (intOf i).toNat)
    case atStart => exact ⟨0, 0, by omega, rfl, rfl⟩
    case round =>
      obtain ⟨k, q, hk, rfl, rfl⟩ := hrel
      by_cases hlt : k < N
      · obtain ⟨b, off, rfl, hcell⟩ := HYR.out.ue (k := k) (by have := HYL.out; omega)
        obtain ⟨bx, ox, rfl, _⟩ := HXW.out.ue (k := k) (by have := HN.out; omega)
        obtain ⟨v, hv⟩ : ∃ v, v = ys[k]'(by have := HYL.out; omega) := ⟨_, rfl⟩
        rw [← hv] at hcell
        have HV := Lib.hid (show ys[k]? = some v by rw [hv]; exact List.getElem?_eq_getElem _); clear hv
        have hNx : (N : Int) ≤ 300 := hbig
        go_wp2
        go_loopw [6, 7, 33] (fun m n j wr => ∃ t q' cx cy : Nat, t ≤ N ∧ j = .int .i64 t ∧ m = .int .i64 cx ∧ n = .int .i64 cy ∧ cx = (xs.take t).count v ∧ cy = (ys.take t).count v ∧ wr = W.drewN q') (fun _ _ j _ => N - (intOf j).toNat)
        case atStart => exact ⟨0, q, 0, 0, by omega, rfl, rfl, rfl, rfl, rfl, rfl⟩
        case round =>
          obtain ⟨t, q', cx, cy, ht, rfl, rfl, rfl, hcx, hcy, rfl⟩ := hrel
          have hcx1 : cx ≤ t := by rw [hcx]; exact Nat.le_trans (List.count_le_length) (by rw [List.length_take]; exact Nat.min_le_left _ _)
          have hcy1 : cy ≤ t := by rw [hcy]; exact Nat.le_trans (List.count_le_length) (by rw [List.length_take]; exact Nat.min_le_left _ _)
          have HCX := Lib.hid hcx; clear hcx
          have HCY := Lib.hid hcy; clear hcy
          by_cases hlt2 : t < N
          · have htx : t < xs.length := by have := HN.out; omega
            have hty : t < ys.length := by have := HYL.out; omega
            obtain ⟨b1, o1, e1, hcell1⟩ := HXW.out.ue htx
            obtain ⟨b2, o2, e2, hcell2⟩ := HYR.out.ue hty
            injection e1 with e1
            injection e1 with e11 e12
            injection e2 with e2
            injection e2 with e21 e22
            subst e11 e12 e21 e22
            have hq1 := @ue_eq xs[t] v
            have hq2 := @ue_eq ys[t] v
            have n1 := count_next htx v
            have n2 := count_next hty v
            by_cases E1 : xs[t] = v
            · rw [decide_eq_true E1] at hq1
              rw [if_pos E1] at n1
              have N1 := Lib.hid n1; clear n1 E1
              generalize xs[t] = x1 at *
              by_cases E2 : ys[t] = v
              · rw [decide_eq_true E2] at hq2
                rw [if_pos E2] at n2
                have N2 := Lib.hid n2; clear n2 E2
                generalize ys[t] = y1 at *
                go_wp2
                go_roundw
                case rel => exact ⟨t+1, q', cx + 1, cy + 1, by omega, by go_num, by first | rfl | go_num, by first | rfl | go_num, by have := N1.out; have := HCX.out; omega, by have := N2.out; have := HCY.out; omega, rfl⟩
                case measure => simp [intOf]; omega
              · rw [decide_eq_false E2] at hq2
                rw [if_neg E2] at n2
                have N2 := Lib.hid n2; clear n2 E2
                generalize ys[t] = y1 at *
                go_wp2
                go_roundw
                case rel => exact ⟨t+1, q', cx + 1, cy, by omega, by go_num, by first | rfl | go_num, by first | rfl | go_num, by have := N1.out; have := HCX.out; omega, by have := N2.out; have := HCY.out; omega, rfl⟩
                case measure => simp [intOf]; omega
            · rw [decide_eq_false E1] at hq1
              rw [if_neg E1] at n1
              have N1 := Lib.hid n1; clear n1 E1
              generalize xs[t] = x1 at *
              by_cases E2 : ys[t] = v
              · rw [decide_eq_true E2] at hq2
                rw [if_pos E2] at n2
                have N2 := Lib.hid n2; clear n2 E2
                generalize ys[t] = y1 at *
                go_wp2
                go_roundw
                case rel => exact ⟨t+1, q', cx, cy + 1, by omega, by go_num, by first | rfl | go_num, by first | rfl | go_num, by have := N1.out; have := HCX.out; omega, by have := N2.out; have := HCY.out; omega, rfl⟩
                case measure => simp [intOf]; omega
              · rw [decide_eq_false E2] at hq2
                rw [if_neg E2] at n2
                have N2 := Lib.hid n2; clear n2 E2
                generalize ys[t] = y1 at *
                go_wp2
                go_roundw
                case rel => exact ⟨t+1, q', cx, cy, by omega, by go_num, by first | rfl | go_num, by first | rfl | go_num, by have := N1.out; have := HCX.out; omega, by have := N2.out; have := HCY.out; omega, rfl⟩
                case measure => simp [intOf]; omega
          · obtain rfl : t = N := by omega
            have hxx : cx = xs.count v := by rw [HCX.out, HN.out, List.take_length]
            have hyy : cy = ys.count v := by rw [HCY.out, ← HYL.out, List.take_length]
            have hcc : cx = cy := by rw [hxx, hyy]; exact (HYP.out.count_eq v).symm
            subst hcc
            clear hxx hyy
            by_cases hk0 : k = 0
            · subst hk0
              go_wp2
              go_roundw
              case rel => exact ⟨1, q', by omega, by go_num, rfl⟩
              case measure => simp [intOf]; omega
            · obtain ⟨kp, hkp⟩ : ∃ kp, k = kp + 1 := ⟨k - 1, by omega⟩
              have hyl := HYL.out
              have hkl : kp + 1 < ys.length := by omega
              obtain ⟨b3, o3, e3, hcell3⟩ := HYR.out.ue (k := kp) (by omega)
              injection e3 with e3
              injection e3 with e31 e32
              subst e31 e32
              have hord := HYO.out kp hkl
              have hvk : ys[kp + 1] = v := by
                have := HV.out
                rw [hkp, List.getElem?_eq_getElem hkl] at this
                exact Option.some.inj this
              rw [hvk] at hord
              clear hvk
              obtain ⟨u, hu⟩ : ∃ u, u = ys[kp]'(by omega) := ⟨_, rfl⟩
              rw [← hu] at hcell3 hord
              clear hu hkl hyl
              obtain ⟨z, hz⟩ : ∃ z, z = ordN u.toNat v.toNat := ⟨_, rfl⟩
              have hz0 : decide (0 < z) = false := by
                rw [decide_eq_false_iff_not, hz]
                unfold ordN
                split
                · decide
                · first | decide | (rw [if_neg hord]; decide)
              have HZ := Lib.hid hz; clear hz hord
              have i1 : ((k : Int) - 1).toNat = kp := by omega
              have i2 : 0 ≤ (k : Int) - 1 := by omega
              have i3 : (k : Int) - 1 < (t : Int) := by omega
              have i4 : decide (0 < (k : Int)) = true := by rw [decide_eq_true_eq]; omega
              have i5 : 1 ≤ k := by omega
              have HU := Lib.hid u.toNat_lt
              have HVL := Lib.hid v.toNat_lt
              clear hkp hk0
              go_wp2_with fail
              refine (order_any u.toNat v.toNat _ HU.out HVL.out).mono ?_
              rintro e w1 ⟨rfl, rfl⟩
              rw [← HZ.out]
              go_wp2
              go_roundw
              case rel => exact ⟨k+1, _, by omega, by go_num, rfl⟩
              case measure => simp [intOf]; omega
      · obtain rfl : k = N := by omega
        go_wp2
        go_ret
        exact ⟨rfl, below_drewN HB.out _⟩
  · have hd : decide (300 < (N : Int)) = true := by simp; omega
    go_enter Try.func9, Try.ntmps9
    go_wp2_with fail
    refine (live_any _).mono ?_
    rintro e w1 ⟨rfl, n, rfl⟩
    go_wp2_with fail
    refine (live_any _).mono ?_
    rintro e w1 ⟨rfl, n1, rfl⟩
    go_wp2
    go_ret
    exact ⟨rfl, below_drewN (Below.refl _ w) _⟩
theorem ue_of (xs : List Nat) (h : ∀ x ∈ xs, x < 18446744073709551616) : (xs.map UInt64.ofNat).map Ue = xs.map Uv := by
  rw [List.map_map]
  refine List.map_congr_left fun x hx => ?_
  have := h x hx
  simp only [Function.comp, Ue, Uv, UInt64.toNat_ofNat']
  rw [Nat.mod_eq_of_lt this]
theorem sorts_walk' (A : Option Addr) (c : Nat) (xs : List Nat) (w : World) (hx : Rd w A (xs.map Uv)) (hb : ∀ x ∈ xs, x < 18446744073709551616) (hlm : xs.length ≤ 9223372036854775807) :
    Calls Try.prog 9 #[.slice A xs.length c] w fun e w' => e = .returned (.bool true) ∧ Below w.heap.size w w' := by
  have h := sorts_walk A c (xs.map UInt64.ofNat) w (by rw [ue_of xs hb]; exact hx) (by simpa using hlm)
  rw [List.length_map] at h
  exact h

set_option maxRecDepth 100000 in
theorem realSorts_lifted (os : Os) (started : os.Started) (H : Type) (enc : TypeId × Value → H) :
    ReturnsInHanded {} Try.checked os 9 .any (Rows.realSortsSpec.pre6 enc Try.prog Try.f9 Rows.realSortsRow.domain false) (Rows.realSortsSpec.post enc Try.prog Try.f9 false true false false) := by
  refine returnsInHanded_of_change (C := Try.checked) ownKn started (by kernel_rfl) Try.func9
    (ChangeSpec.witness6 (enc := enc) (C := Try.checked) false ⟨#[], #[.slice none 0 0], []⟩ 8 (by kernel_rfl) (by kernel_rfl) (by kernel_rfl) (by kernel_rfl)) ?_
  intro W base args ds gs before hval0 hW hcnd _
  have hval : ∀ (j : Nat) t v, Try.f9.params[j]? = some t → args[j]? = some v → Value.okWide Try.prog W .any base t v := hval0
  have hW' := hW
  obtain ⟨p, q, hA0, hV, rfl, hfz, hnd⟩ := hW
  have hA : DataW.TrodAll enc Try.prog W 0 (fun _ => true) true Try.f9.params.toList args.toList ds p := hA0
  rw [Try.params9] at hA hval
  obtain ⟨v0, vs0, d0, ds0, p0, q0, hargs, rfl, rfl, h0, r0⟩ := trodAll_cons hA
  obtain ⟨rfl, rfl, rfl⟩ := trodAll_nil r0
  obtain rfl : args = #[v0] := by cases args; simp_all
  obtain ⟨rfl, rfl⟩ := trodVars_none hV
  obtain ⟨A0, c0, xs0, rfl, hm0, hx0, hw0⟩ := open_u64s (hval 0 35 v0 rfl rfl) h0
  clear hA0 hval0 hA
  unfold maxLen at hm0
  refine (sorts_walk' A0 c0 xs0 W hx0 hw0 (by omega)).mono fun e W' ⟨he, hg⟩ => ?_
  subst he
  exact ⟨_, rfl, law_end laidOut (by kernel_rfl) (by kernel_rfl) Try.underlying4 rfl hW' ⟨rfl, rfl, rfl⟩ hg⟩

theorem realSorts_holds : Rows.RealSortsSaid :=
  OpenClaim.holds_of_wide 9 Try.f9 rfl rfl rfl rfl rfl rfl rfl ⟨rfl, rfl, rfl, rfl, rfl⟩ rfl rfl rfl rfl rfl (by kernel_rfl) Try.func9 (by kernel_rfl)
    (of_decide_eq_true (by kernel_rfl)) (by unfold Func.isWrapper; first | (rw [if_pos (by decide +kernel)]; kernel_rfl) | (rw [if_neg (by decide +kernel)]; exact ⟨rfl, rfl⟩))
    (fun os started H enc _ => realSorts_lifted os started H enc)
#print axioms realSorts_holds
end
end Go.Proofs.Ytlaodfkcfclpmaa
