/-
  Bytes as letters, as the package writes them.
-/
import Derived.Test.YtgpmghnemhngeaaDoorC01
namespace Go.Proofs.YtgpmghnemhngeaaDoor
section
set_option linter.unusedVariables false
set_option linter.unusedSimpArgs false
open Go.RowKit

/-- A letter of a text by its place. -/
theorem run_index_str (w : World) (t : TypeId) (L : ByteArray) (k : IntKind) (d : Nat) (ht : Tryd.prog.underlying t = some .string) (hd : d < L.size) :
    (Instr.index t (.string L) (.int k (d : Nat))).run Tryd.prog w = .ok (.int .u8 ((ltr L.data.toList d).toNat : Nat)) w := by
  unfold ltr
  have hs : L[d]? = some (L.data.toList.getD d 0) := by
    have h2 : d < L.data.size := hd
    show (if h : d < L.size then some L[d] else none) = _
    rw [dif_pos hd]
    refine congrArg some ?_
    rw [List.getD_eq_getElem?_getD, Array.getElem?_toList, Array.getElem?_eq_getElem h2]
    rfl
  simp [Instr.index, asIntOf, run_underlying ht, hs]

section
set_option maxHeartbeats 1600000
set_option maxRecDepth 100000
theorem written_any (w : World) (A : Option Addr) (ca n wd : Nat) (xs : List UInt8) (L : ByteArray) (hn : xs.length = n) (hx : Rd w A (xs.map Bv)) (hw4 : 4 ≤ wd) (hw6 : wd ≤ 6) (hL : L.size = 2 ^ wd) (hl : n ≤ 1000000) :
    Calls Tryd.prog 39 #[.slice A n ca, .int .i64 (wd : Nat), .string L] w fun e w' => e = .returned (.string ⟨(armS wd L.data.toList xs).toArray⟩) ∧ Below w.heap.size w w' := by
  obtain ⟨g, hg⟩ : ∃ g, g = (n * 8 + wd - 1) / wd := ⟨_, rfl⟩
  have hgl : g ≤ 8000010 := by rw [hg]; exact Nat.le_trans (Nat.div_le_self _ _) (by omega)
  have hge : ((n : Int) * 8 + (wd : Int) - 1) / (wd : Int) = (g : Int) := by
    have e : (n : Int) * 8 + (wd : Int) - 1 = ((n * 8 + wd - 1 : Nat) : Int) := by omega
    rw [e, hg]; rfl
  have HN := Lib.hid hn; clear hn
  have HG := Lib.hid hg; clear hg
  have HL := Lib.hid hL; clear hL
  go_enter Tryd.func39, Tryd.ntmps39
  go_wp2_with fail
  clear hge
  refine (Tryd.Builder_Grow_fresh w.heap.size w.heap.size g _ (Nat.le_refl _) (heap_alloc_new w _) (by simp) (by omega)).mono ?_
  rintro e w1 ⟨rfl, hB1, hb1⟩
  have hb1' : Below w.heap.size w w1 := ((Below.refl _ w).alloc (Nat.le_refl _) _).trans hb1
  have hB1' : BldIs w.heap.size w.heap.size [] w1 := hB1
  clear hb1 hB1
  go_wp2
  go_loopw [8, 9, 23] (fun h c i wr => ∃ k q t : Nat, k ≤ n ∧ t = wd * q ∧ t ≤ 8 * k ∧ 8 * k < t + wd ∧ i = .int .i64 k ∧ h = .int .u32 (natOf ((rb (xs.take k)).drop t) : Nat) ∧ c = .int .i64 ((8 * k - t : Nat) : Int)
      ∧ BldIs w.heap.size w.heap.size (lettersOf L.data.toList (digs wd q (rb (xs.take k)))) wr ∧ Below w.heap.size w wr) (fun _ _ i _ => n - (intOf i).toNat)
  case atStart => exact ⟨0, 0, 0, by omega, by omega, by omega, by omega, rfl, rfl, rfl, hB1', hb1'⟩
  case round =>
    clear hB1' hb1'
    obtain ⟨k, q, t, hk, ht, htk, htw, rfl, rfl, rfl, hB, hb⟩ := hrel
    have HT := Lib.hid ht; clear ht
    by_cases hlt : k < n
    · have hkx : k < xs.length := by rw [HN.out]; exact hlt
      obtain ⟨b, off, rfl, hc⟩ := (hx.below hb).byte hkx
      have hrow : rb (xs.take (k + 1)) = rb (xs.take k) ++ bitsOf xs[k].toNat 8 := by rw [List.take_succ_eq_append_getElem hkx, rb_append, rb_one]
      have hlk : (rb (xs.take k)).length = 8 * k := by rw [rb_length, List.length_take]; omega
      have hnl : natOf ((rb (xs.take k)).drop t) < 2 ^ (8 * k - t) := by have := natOf_lt ((rb (xs.take k)).drop t); rwa [List.length_drop, hlk] at this
      have hn64 : natOf ((rb (xs.take k)).drop t) < 64 := Nat.lt_of_lt_of_le hnl (Nat.le_trans (Nat.pow_le_pow_right (by decide) (show 8 * k - t ≤ 6 by omega)) (by decide))
      have hx8 := xs[k].toNat_lt
      have hnew : natOf ((rb (xs.take (k + 1))).drop t) = natOf ((rb (xs.take k)).drop t) * 256 + xs[k].toNat := by
        rw [hrow, List.drop_append_of_le_length (by omega), natOf_append, bitsOf_length, natOf_bitsOf, Nat.mod_eq_of_lt (by omega)]
      have hdg : digs wd q (rb (xs.take (k + 1))) = digs wd q (rb (xs.take k)) := by rw [hrow, digs_append _ _ _ _ (by rw [hlk, ← HT.out]; exact htk)]
      rw [← hdg] at hB
      have hlr : (rb (xs.take (k + 1))).length = 8 * (k + 1) := by rw [rb_length, List.length_take]; omega
      have hor : bits .or .u32 ((natOf ((rb (xs.take k)).drop t) : Nat) * 256 : Int) (xs[k].toNat : Int) = ((natOf ((rb (xs.take (k + 1))).drop t) : Nat) : Int) := by
        have h1 : natOf ((rb (xs.take k)).drop t) * 256 ||| xs[k].toNat = natOf ((rb (xs.take k)).drop t) * 256 + xs[k].toNat := by
          rw [Nat.or_comm, Nat.add_comm]; exact or_beside _ _ 8 (by omega)
        rw [show ((natOf ((rb (xs.take k)).drop t) : Nat) * 256 : Int) = ((natOf ((rb (xs.take k)).drop t) * 256 : Nat) : Int) from rfl, u32_or_nat _ _ (by omega) (by omega), h1, hnew]
      clear hrow hlk hnl hnew hdg
      generalize natOf ((rb (xs.take k)).drop t) = h0 at *
      obtain ⟨h1, hh1⟩ : ∃ h1, h1 = natOf ((rb (xs.take (k + 1))).drop t) := ⟨_, rfl⟩
      rw [← hh1] at hor
      have HH1 := Lib.hid hh1; clear hh1
      have HLR := Lib.hid hlr; clear hlr
      go_wp2
      obtain ⟨N, hN⟩ : ∃ N, N = 8 * (k + 1) := ⟨_, rfl⟩
      have hN2 : 8 * k - t + 8 = N - t := by omega
      have hNt : t ≤ N := by omega
      have hN13 : N - t ≤ 13 := by omega
      have hcs : ((8 * k - t : Nat) : Int) + 8 = ((N - t : Nat) : Int) := by omega
      have hlr2 : (rb (xs.take (k + 1))).length = N := by rw [HLR.out, hN]
      obtain ⟨row, hrw⟩ : ∃ row, row = rb (xs.take (k + 1)) := ⟨_, rfl⟩
      rw [← hrw] at hB hlr2 HH1
      have HRW := Lib.hid hrw; clear hrw
      have HROW := Lib.hid hlr2; clear hlr2
      have hNb : N ≤ 8000008 := by omega
      have HNN := Lib.hid hN; clear hN
      have HCS := Lib.hid hcs; clear hcs
      clear hn64 hor HLR
      obtain ⟨wo, hwo⟩ : ∃ wo, wo = wr := ⟨_, rfl⟩
      rw [← hwo]
      rw [← hwo] at hB hb
      go_loopw [8, 9] (fun h c wq => ∃ q t : Nat, t = wd * q ∧ t ≤ N ∧ N - t ≤ 13 ∧ h = .int .u32 (natOf (row.drop t) : Nat) ∧ c = .int .i64 ((N - t : Nat) : Int)
        ∧ BldIs w.heap.size w.heap.size (lettersOf L.data.toList (digs wd q row)) wq ∧ Below w.heap.size w wq) (fun _ c _ => (intOf c).toNat)
      case atStart => exact ⟨q, t, HT.out, hNt, hN13, by rw [HH1.out], by rw [HCS.out], hB, hb⟩
      case round =>
        clear hB hb HH1 HCS hN13 hNt hN2 hwo hc
        obtain ⟨q, t, ht, htN, h13, rfl, rfl, hB, hb⟩ := hrel
        have hpl : (row.drop t).length = N - t := by rw [List.length_drop, HROW.out]
        have HTQ := Lib.hid ht; clear ht
        have hnl := natOf_lt (row.drop t)
        rw [hpl] at hnl
        have hn32 : natOf (row.drop t) < 8192 := Nat.lt_of_lt_of_le hnl (Nat.le_trans (Nat.pow_le_pow_right (by decide) h13) (by decide))
        by_cases hge : wd ≤ N - t
        · have hhi := natOf_high (row.drop t) wd (by rw [hpl]; exact hge)
          have hlo := natOf_low (row.drop t) wd (by rw [hpl]; exact hge)
          rw [hpl] at hhi hlo
          have hdl := natOf_take_lt row wd t
          obtain ⟨e, he⟩ : ∃ e, e = N - t - wd := ⟨_, rfl⟩
          have hee : ((N - t : Nat) : Int) - (wd : Int) = (e : Int) := by omega
          have he9 : e ≤ 9 := by omega
          rw [← he] at hhi hlo
          have hsh : ((natOf (row.drop t) : Nat) : Int) / 2 ^ e = ((natOf ((row.drop t).take wd) : Nat) : Int) := by rw [natCast_two_pow, ← hhi]; rfl
          have hix := fun (u : World) => run_index_str u 9 L .u32 _ Tryd.underlying9 (by rw [HL.out]; exact hdl)
          have hand : bits .and .u32 ((natOf (row.drop t) : Nat) : Int) ((2 : Int) ^ e - 1) = ((natOf ((row.drop t).drop wd) : Nat) : Int) := by
            have h1 : (2 : Int) ^ e - 1 = ((2 ^ e - 1 : Nat) : Int) := by rw [natCast_two_pow, Int.ofNat_sub (Nat.one_le_two_pow)]; rfl
            have h2 : 2 ^ e ≤ 2 ^ 9 := Nat.pow_le_pow_right (by decide) he9
            rw [h1, u32_and_nat _ _ (by omega) (by omega), Nat.and_two_pow_sub_one_eq_mod, hlo]
          have hp1 : (2 : Int) ^ e ≤ 512 := by
            have h2 : 2 ^ e ≤ 2 ^ 9 := Nat.pow_le_pow_right (by decide) he9
            rw [natCast_two_pow]; omega
          have hp0 : (1 : Int) ≤ (2 : Int) ^ e := by
            have h2 : 0 < 2 ^ e := Nat.two_pow_pos e
            rw [natCast_two_pow]; omega
          have hdg := digs_succ wd q row
          rw [← HTQ.out] at hdg
          have HDG := Lib.hid hdg; clear hdg
          have HE := Lib.hid he; clear he
          clear hhi hlo hnl
          generalize natOf ((row.drop t).take wd) = dg at *
          have hlb := (ltr L.data.toList dg).toNat_lt
          have hdrop : (row.drop t).drop wd = row.drop (t + wd) := by rw [List.drop_drop]
          rw [hdrop] at hand
          clear hdrop
          have hlen : (lettersOf L.data.toList (digs wd q row)).length ≤ N := by
            rw [lettersOf_length, digs_length]
            have : q ≤ wd * q := Nat.le_mul_of_pos_left q (by omega)
            have := HTQ.out
            omega
          go_wp2_with fail
          refine (wb_any w.heap.size w.heap.size _ _ wr hB hb.size hlb (by omega)).mono ?_
          rintro e' w2 ⟨rfl, hB2, hb2⟩
          rw [UInt8.ofNat_toNat, ← lettersOf_snoc, ← HDG.out] at hB2
          have hb2' := hb.trans (hb2.mono (Nat.le_refl _))
          clear hB hb hb2
          go_wp2
          go_roundw
          case rel => exact ⟨q + 1, t + wd, by rw [HTQ.out, Nat.mul_add, Nat.mul_one], by omega, by omega, rfl, by rw [show N - (t + wd) = e from by rw [HE.out]; omega], hB2, hb2'⟩
          case measure => simp [intOf]; omega
        · have hc1 : N - t < wd := by omega
          go_wp2
          go_roundw
          case rel => exact ⟨k + 1, q, t, by omega, HTQ.out, by have := HNN.out; omega, by have := HNN.out; omega, by go_num, by rw [← HRW.out], by rw [← HNN.out], by rw [← HRW.out]; exact hB, hb⟩
          case measure => simp [intOf]; omega
    · have hkn : k = n := by omega
      have htk2 : xs.take k = xs := List.take_of_length_le (by rw [HN.out]; omega)
      rw [htk2] at hB ⊢
      have hrl : (rb xs).length = 8 * k := by rw [rb_length, HN.out, hkn]
      have HKN := Lib.hid hkn; clear hkn htk2
      by_cases hc0 : 8 * k - t = 0
      · have hz : ((8 * k - t : Nat) : Int) = 0 := by omega
        have harm : armS wd L.data.toList xs = lettersOf L.data.toList (digs wd q (rb xs)) := armB_whole wd _ _ q (by omega) (by rw [hrl, ← HT.out]; omega)
        rw [← harm] at hB
        have HA := Lib.hid harm; clear harm hc0
        go_wp2_with fail
        refine (Tryd.Builder_String_any w.heap.size w.heap.size (armS wd L.data.toList xs) wr (.inr hB) hb.size).mono ?_
        rintro e' w2 ⟨rfl, hb2⟩
        go_wp2
        go_ret
        exact ⟨rfl, hb.trans (hb2.mono (Nat.le_refl _))⟩
      · have hpl : ((rb xs).drop t).length = 8 * k - t := by rw [List.length_drop, hrl]
        have hnl := natOf_lt ((rb xs).drop t)
        rw [hpl] at hnl
        obtain ⟨c, hc⟩ : ∃ c, c = 8 * k - t := ⟨_, rfl⟩
        have hcw : c < wd := by omega
        have hcp : 0 < c := by omega
        rw [← hc] at hnl ⊢
        have harm : armS wd L.data.toList xs = lettersOf L.data.toList (digs wd q (rb xs)) ++ [ltr L.data.toList (natOf ((rb xs).drop t) * 2 ^ (wd - c))] := by
          have h := armB_part wd L.data.toList (rb xs) q c hcp hcw (by rw [hrl, ← HT.out]; omega)
          rw [← HT.out] at h
          exact h
        have hcc := Lib.hid hc; clear hc hpl
        have hpw : natOf ((rb xs).drop t) * 2 ^ (wd - c) < 2 ^ wd := by
          have e : 2 ^ wd = 2 ^ c * 2 ^ (wd - c) := by rw [← Nat.pow_add, show c + (wd - c) = wd from by omega]
          rw [e]; exact Nat.mul_lt_mul_of_pos_right hnl (Nat.two_pow_pos _)
        have hp64 : 2 ^ wd ≤ 2 ^ 6 := Nat.pow_le_pow_right (by decide) hw6
        have hix := fun (u : World) => run_index_str u 9 L .u32 _ Tryd.underlying9 (by rw [HL.out]; exact hpw)
        obtain ⟨e, he⟩ : ∃ e, e = wd - c := ⟨_, rfl⟩
        have hee : (wd : Int) - (c : Int) = (e : Int) := by omega
        rw [← he] at hix harm hpw
        have HE := Lib.hid he; clear he
        have hsh : ((natOf ((rb xs).drop t) : Nat) : Int) * 2 ^ e = ((natOf ((rb xs).drop t) * 2 ^ e : Nat) : Int) := by rw [natCast_two_pow]; rfl
        have hsm : ((natOf ((rb xs).drop t) : Nat) : Int) * 2 ^ e % 4294967296 = ((natOf ((rb xs).drop t) * 2 ^ e : Nat) : Int) := by rw [hsh]; omega
        have HSH := Lib.hid hsh; clear hsh
        generalize hdg : natOf ((rb xs).drop t) * 2 ^ e = dg at *
        have HDG := Lib.hid hdg; clear hdg
        have hlb := (ltr L.data.toList dg).toNat_lt
        have hlen : (lettersOf L.data.toList (digs wd q (rb xs))).length ≤ 8 * k := by
          rw [lettersOf_length, digs_length]
          have : q ≤ wd * q := Nat.le_mul_of_pos_left q (by omega)
          have := HT.out
          omega
        have HA := Lib.hid harm; clear harm
        clear hnl hpw hp64
        go_wp2_with fail
        refine (wb_any w.heap.size w.heap.size _ _ wr hB hb.size hlb (by omega)).mono ?_
        rintro e' w2 ⟨rfl, hB2, hb2⟩
        rw [UInt8.ofNat_toNat, ← HA.out] at hB2
        have hb2' := hb.trans (hb2.mono (Nat.le_refl _))
        go_wp2_with fail
        refine (Tryd.Builder_String_any w.heap.size w.heap.size (armS wd L.data.toList xs) w2 (.inr hB2) hb2'.size).mono ?_
        rintro e' w3 ⟨rfl, hb3⟩
        go_wp2
        go_ret
        exact ⟨rfl, hb2'.trans (hb3.mono (Nat.le_refl _))⟩
theorem armor_any (w : World) (A : Option Addr) (ca n : Nat) (xs : List UInt8) (hn : xs.length = n) (hx : Rd w A (xs.map Bv)) (hl : n ≤ 1000000) :
    Calls Tryd.prog 24 #[.slice A n ca] w fun e w' => e = .returned (.string ⟨(armS 6 armL xs).toArray⟩) ∧ Below w.heap.size w w' := by
  have HN := Lib.hid hn; clear hn
  go_enter Tryd.func24, Tryd.ntmps24
  go_wp2_with fail
  refine (written_any w A ca n 6 xs ⟨armL.toArray⟩ HN.out hx (by decide) (by decide) (by decide +kernel) hl).mono ?_
  rintro e w1 ⟨rfl, hb⟩
  go_wp2
  go_ret
  exact ⟨rfl, hb⟩
end
end
end Go.Proofs.YtgpmghnemhngeaaDoor
