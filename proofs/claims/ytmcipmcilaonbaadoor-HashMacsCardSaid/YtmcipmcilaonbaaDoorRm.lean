/-
  The plain answers' sum with a key.
-/
import Derived.Test.YtmcipmcilaonbaaDoorRs2
import Derived.Deep.DeepCutAuto
namespace Go.Proofs.YtmcipmcilaonbaaDoor
set_option linter.unusedVariables false
set_option linter.unusedSimpArgs false
open Go.RowKit

/-- A key that is not too long. -/
def keyL (K : List UInt8) : List UInt8 := if 64 < K.length then sha K else K
theorem keyL_le (K : List UInt8) : (keyL K).length ≤ 64 := by unfold keyL; split; rw [sha_length]; decide; omega
theorem fullK_key (K : List UInt8) : fullK K = keyL K ++ List.replicate (64 - (keyL K).length) 0 := by
  unfold fullK keyL
  split
  · rw [sha_length]
  · rfl
def outX (F : List UInt8) (k : Nat) : List UInt8 := F.take k ++ List.replicate (64 - k) 0
theorem outX_length {F : List UInt8} {k : Nat} (hF : F.length = 64) (h : k ≤ 64) : (outX F k).length = 64 := by simp [outX, hF]; omega
theorem outX_set {F : List UInt8} {k : Nat} (hF : F.length = 64) (h : k < 64) : (outX F k).set k (F[k]'(by omega)) = outX F (k + 1) := by
  unfold outX
  have hl : (F.take k).length = k := by rw [List.length_take]; omega
  rw [List.set_append, if_neg (by omega), hl, Nat.sub_self, show 64 - k = (64 - (k + 1)) + 1 from by omega, List.replicate_succ, List.set_cons_zero, List.take_succ_eq_append_getElem (by omega), List.append_assoc]
  rfl
theorem maskF_in {K : List UInt8} {c : UInt8} {k : Nat} (h : k < (keyL K).length) (h2 : k < (maskL (fullK K) c).length) : (maskL (fullK K) c)[k] = (keyL K)[k] ^^^ c := by
  simp only [maskL, List.getElem_map]
  congr 1
  simp only [fullK_key, List.getElem_append_left h]
theorem maskF_out {K : List UInt8} {c : UInt8} {k : Nat} (h : ¬ k < (keyL K).length) (h2 : k < (maskL (fullK K) c).length) : (maskL (fullK K) c)[k] = c := by
  simp only [maskL, List.getElem_map, fullK_key]
  rw [List.getElem_append_right (by omega)]
  simp
section
set_option maxHeartbeats 1600000
set_option maxRecDepth 100000
theorem rxored_any (w : World) (A : Option Addr) (ca n : Nat) (K : List UInt8) (c : UInt8) (x : Int) (hn : K.length = n) (hx : Rd w A (K.map Bv)) (hl : n ≤ 100000000) (hc : x = (c.toNat : Int)) :
    Calls Tryd.prog 43 #[.slice A n ca, .int .u8 x] w fun e w' => ∃ v, e = .returned v ∧ w'.ownsRow w.heap.size 5 1 v 64 ((maskL (fullK K) c).map Bv) ∧ Below w.heap.size w w' := by
  subst hc
  obtain ⟨i0, hi, hz0, hz1, hz2⟩ := info_parts infoU8
  have hkl := keyL_le K
  have hFl : (maskL (fullK K) c).length = 64 := by rw [maskL_length, fullK_length]
  have hin := fun k h h2 => maskF_in (K := K) (c := c) (k := k) h h2
  have hout := fun k h h2 => maskF_out (K := K) (c := c) (k := k) h h2
  obtain ⟨KL, hKL⟩ : ∃ KL, KL = keyL K := ⟨_, rfl⟩
  rw [← hKL] at hkl hin hout
  generalize maskL (fullK K) c = F at *
  have HIN := Lib.hid hin; clear hin
  have HOUT := Lib.hid hout; clear hout
  have HFL := Lib.hid hFl; clear hFl
  have HKL := Lib.hid hKL; clear hKL
  have HN := Lib.hid hn; clear hn
  have hc8 := c.toNat_lt
  go_enter Tryd.func43, Tryd.ntmps43
  go_upto_if 9 with (fail)
  go_cut [0] (fun v0 wx => ∃ (A' : Option Addr) (m c' : Nat), v0 = .slice A' m c' ∧ KL.length = m ∧ Rd wx A' (KL.map Bv) ∧ Below w.heap.size w wx)
  case first =>
    by_cases h64 : 64 < n
    · have hd : decide ((n : Int) > 64) = true := by simp; omega
      have hk : KL = sha K := by rw [HKL.out]; unfold keyL; rw [if_pos (by rw [HN.out]; exact h64)]
      have HK := Lib.hid hk; clear hk
      go_wp2_with fail
      refine (rsum_any w A ca n K HN.out hx hl).mono ?_
      rintro e w1 ⟨v1, rfl, own1, hb1⟩
      obtain ⟨A1, c1, rfl, rd1, _⟩ := own_rd own1
      rw [← HK.out] at rd1
      have hkn : KL.length = 32 := by rw [HK.out, sha_length]
      have HKN := Lib.hid hkn; clear hkn own1
      go_wp2_with fail
      go_meet
      exact ⟨A1, 32, c1, rfl, HKN.out, rd1, hb1⟩
    · have hk : KL = K := by rw [HKL.out]; unfold keyL; rw [if_neg (by rw [HN.out]; exact h64)]
      have HK := Lib.hid hk; clear hk
      go_wp2_with fail
      go_meet
      exact ⟨A, n, ca, rfl, by rw [HK.out]; exact HN.out, by rw [HK.out]; exact hx, Below.refl _ _⟩
  case rest =>
    obtain ⟨A', m, c', rfl, hm, hrd, hbx⟩ := hcut
    have hm64 : m ≤ 64 := by omega
    have HM := Lib.hid hm; clear hm
    have hsz := hbx.size
    go_wp2_with (first | (at_make; refine wpList_make_full _ rfl _ _ 28 rfl w.heap.size 5 i0 (.int .u8 0) 1 Tryd.underlying28 hi hz0 hz1 _ _ _ _ 64 rfl rfl (by omega) (by omega) (by rw [hz2]; omega) (by unfold maxLen; omega) hsz ?_; intro w1 hown hgrow; have hown := made_row hown) | fail)
    have hb1 := hbx.grown hgrow hsz (fun k e => by cases e)
    have hrd1 : Rd w1 A' (KL.map Bv) := hrd.blk fun b hb _ => hgrow.block b hb (by intro e; cases e)
    have hz : outX F 0 = List.replicate 64 0 := by simp [outX]
    rw [← hz] at hown
    have hlt0 : 0 < m → ∀ k, A'.map (·.block) = some k → k < wc.heap.size := fun h0 k e => hrd.lt (by rw [List.length_map, HM.out]; exact h0) k e
    clear hz hgrow hrd hbx hi hz0 hz1 hz2
    have hg : ∃ g, g = wc.heap.size := ⟨_, rfl⟩
    obtain ⟨g, hg⟩ := hg
    rw [← hg] at hown ⊢
    have hoff : 0 < m → ∀ k, A'.map (·.block) = some k → k ≠ g := fun h0 k e => by
      have := hlt0 h0 k e
      omega
    have hgw : w.heap.size ≤ g := by omega
    have HOFF := Lib.hid hoff; clear hoff hlt0 hg
    have HRD := Lib.hid hrd1; clear hrd1
    have HOW := Lib.hid hown; clear hown
    go_loopw [15] (fun i wr => ∃ k : Nat, k ≤ 64 ∧ i = .int .i64 k ∧ wr.ownsRow w.heap.size 5 1 (.slice (some ⟨g, 0, none⟩) 64 64) 64 ((outX F k).map Bv) ∧ Mv (fun b => b = g) w1 wr) (fun i _ => 64 - (intOf i).toNat)
    case atStart => exact ⟨0, by omega, rfl, HOW.out, Mv.refl _ _⟩
    case round =>
      obtain ⟨k, hk, rfl, hown, hmv⟩ := hrel
      by_cases hlt : k < 64
      · have hkF : k < F.length := by rw [HFL.out]; exact hlt
        have hox := outX_length HFL.out hk
        obtain ⟨⟨v0, hv0⟩, hf0⟩ := row_cell hown (k := k) (by rw [hox]; exact hlt)
        have hset := outX_set HFL.out hlt
        by_cases hkm : k < m
        · have hkK : k < KL.length := by rw [HM.out]; exact hkm
          have hFk := HIN.out k hkK hkF
          obtain ⟨b, off, rfl, hc⟩ := (Mv.rd1 hmv HRD.out (fun h0 k e => HOFF.out (by omega) k e)).byte hkK
          have hbg : b ≠ g := HOFF.out (by omega) b rfl
          have hy8 := KL[k].toNat_lt
          have hxo := u8_xor_nat KL[k].toNat c.toNat hy8 hc8
          have hfin : ∀ y : Nat, y = KL[k].toNat ^^^ c.toNat → (outX F (k + 1)) = ((outX F k).set k (UInt8.ofNat c.toNat)).set k (UInt8.ofNat y) := fun y hy => by
            rw [List.set_set, ← hset, hFk, hy]
            congr 1
            apply UInt8.toNat_inj.1
            rw [UInt8.toNat_xor, ofNat_toNat (Nat.xor_lt_two_pow (n := 8) hy8 hc8)]
          have hy9 : KL[k].toNat ^^^ c.toNat < 256 := Nat.xor_lt_two_pow (n := 8) hy8 hc8
          have HOW2 := Lib.hid hown; clear hown
          have HFIN := Lib.hid hfin; clear hfin
          clear hset hFk hox
          generalize KL[k].toNat = y at *
          go_wp2
          go_roundw
          case rel =>
            refine ⟨k + 1, by omega, by go_num, ?_, hmv.set1.set1⟩
            rw [HFIN.out _ rfl]
            exact row_set (row_set HOW2.out k rfl hc8) k rfl hy9
          case measure => simp [intOf]; omega
        · have hkK : ¬ k < KL.length := by rw [HM.out]; exact hkm
          have hFk := HOUT.out k hkK hkF
          have hfin : outX F (k + 1) = (outX F k).set k (UInt8.ofNat c.toNat) := by
            rw [← hset, hFk]
            congr 1
            apply UInt8.toNat_inj.1
            rw [ofNat_toNat hc8]
          have hdk : decide ((k : Int) < (m : Int)) = false := by simp; omega
          have HOW2 := Lib.hid hown; clear hown
          have HFIN := Lib.hid hfin; clear hfin
          clear hset hFk hox
          go_wp2
          go_roundw
          case rel =>
            refine ⟨k + 1, by omega, by go_num, ?_, hmv.set1⟩
            rw [HFIN.out]
            exact row_set HOW2.out k rfl hc8
          case measure => simp [intOf]; omega
      · have hkF : outX F k = F := by
          have h64 : k = 64 := by omega
          unfold outX
          rw [h64, List.take_of_length_le (by rw [HFL.out]; decide)]
          simp
        rw [hkF] at hown
        have hbz := hb1.trans (hmv.belowB hb1.size (fun k hk e => by omega))
        clear hkF
        go_wp2
        go_ret
        exact ⟨_, rfl, hown, hbz⟩
theorem rmac_any (w : World) (A B : Option Addr) (ca cb n m : Nat) (K xs : List UInt8) (hn : K.length = n) (hm : xs.length = m) (hx : Rd w A (K.map Bv)) (hy : Rd w B (xs.map Bv)) (hl : n ≤ 100000000) (hl2 : m ≤ 90000000) :
    Calls Tryd.prog 24 #[.slice A n ca, .slice B m cb] w fun e w' => ∃ v, e = .returned v ∧ w'.ownsRow w.heap.size 5 1 v 32 ((macS K xs).map Bv) ∧ Below w.heap.size w w' := by
  have h1 := rxored_any w A ca n K 0x5c 92 hn hx hl rfl
  obtain ⟨ml, hml⟩ : ∃ ml, ml = macS K xs := ⟨_, rfl⟩
  rw [← hml]
  unfold macS at hml
  have hfi : (maskL (fullK K) 0x36).length = 64 := by rw [maskL_length, fullK_length]
  have hfo : (maskL (fullK K) 0x5c).length = 64 := by rw [maskL_length, fullK_length]
  have h2 := fun u hu => rxored_any u A ca n K 0x36 54 hn hu hl rfl
  generalize maskL (fullK K) 0x36 = fi at *
  generalize maskL (fullK K) 0x5c = fo at *
  have H1 := Lib.hid h1; clear h1
  have H2 := Lib.hid h2; clear h2
  have HML := Lib.hid hml; clear hml
  have HFI := Lib.hid hfi; clear hfi
  have HFO := Lib.hid hfo; clear hfo
  have HN := Lib.hid hn; clear hn
  have HM := Lib.hid hm; clear hm
  go_enter Tryd.func24, Tryd.ntmps24
  go_wp2_with fail
  refine H1.out.mono ?_
  rintro e w1 ⟨v1, rfl, own1, hb1⟩
  obtain ⟨A1, c1, rfl, rd1, _, hn1, hm1⟩ := own_rd own1
  have hx1 := hx.below hb1
  have hy1 := hy.below hb1
  have HX1 := Lib.hid hx1; clear hx1
  clear own1 hx hy H1
  go_wp2_with fail
  refine (H2.out w1 HX1.out).mono ?_
  rintro e w2 ⟨v2, rfl, own2, hb2⟩
  obtain ⟨A2, c2, rfl, rd2, _, hn2, hm2⟩ := own_rd own2
  have hb2' := hb1.trans (hb2.mono hb1.size)
  have rd1' := rd1.below hb2
  have hy2 := hy1.below hb2
  have hj := join_two_at w2 A2 B c2 cb 64 m fi xs (fi ++ xs) rfl HFI.out HM.out rd2 hy2 (by omega)
  have HJ := Lib.hid hj; clear hj
  clear own2 hb2 hb1 H2 HX1 rd1 hy1 hy2 rd2
  have R1 := Lib.hid rd1'; clear rd1'
  go_wp2_with fail
  refine HJ.out.mono ?_
  rintro e w3 ⟨v3, rfl, own3, hb3⟩
  obtain ⟨A3, c3, rfl, rd3, _, hn3, hm3⟩ := own_rd own3
  have hb3' := hb2'.trans (hb3.mono hb2'.size)
  have rd13 := R1.out.below hb3
  have hs1 := rsum_any w3 A3 c3 (64 + m) (fi ++ xs) (by rw [List.length_append, HFI.out, HM.out]) rd3 (by omega)
  have HS1 := Lib.hid hs1; clear hs1
  have R3 := Lib.hid rd13; clear rd13
  clear own3 hb3 hb2' HJ R1 rd3
  go_wp2_with fail
  refine HS1.out.mono ?_
  rintro e w4 ⟨v4, rfl, own4, hb4⟩
  obtain ⟨A4, c4, rfl, rd4, _, hn4, hm4⟩ := own_rd own4
  have hb4' := hb3'.trans (hb4.mono hb3'.size)
  have rd14 := R3.out.below hb4
  have hsl : (sha (fi ++ xs)).length = 32 := sha_length _
  generalize sha (fi ++ xs) = inner at *
  have hj2 := join_two_at w4 A1 A4 c1 c4 64 32 fo inner (fo ++ inner) rfl HFO.out hsl rd14 rd4 (by omega)
  have HJ2 := Lib.hid hj2; clear hj2
  clear own4 hb4 hb3' HS1 R3 rd14 rd4
  go_wp2_with fail
  refine HJ2.out.mono ?_
  rintro e w5 ⟨v5, rfl, own5, hb5⟩
  obtain ⟨A5, c5, rfl, rd5, _, hn5, hm5⟩ := own_rd own5
  have hb5' := hb4'.trans (hb5.mono hb4'.size)
  have hs2 := rsum_any w5 A5 c5 (64 + 32) (fo ++ inner) (by rw [List.length_append, HFO.out, hsl]) rd5 (by omega)
  rw [← HML.out] at hs2
  have HS2 := Lib.hid hs2; clear hs2
  clear own5 hb5 hb4' HJ2 rd5
  go_wp2_with fail
  refine HS2.out.mono ?_
  rintro e w6 ⟨v6, rfl, own6, hb6⟩
  have own6' := own6.lower hb5'.size
  have hb6' := hb5'.trans (hb6.mono hb5'.size)
  go_wp2
  go_ret
  exact ⟨_, rfl, own6', hb6'⟩
end
end Go.Proofs.YtmcipmcilaonbaaDoor
