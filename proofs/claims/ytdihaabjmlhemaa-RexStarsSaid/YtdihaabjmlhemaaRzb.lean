/-
  Whether a text has just runes, and texts as they are in a pattern: the plain answers' own.
-/
import Derived.Test.YtdihaabjmlhemaaRza
import Derived.Test.YtdihaabjmlhemaaRq6
namespace Go.Proofs.Ytdihaabjmlhemaa
set_option linter.unusedVariables false
set_option linter.unusedSimpArgs false
open Go.RowKit
/-- Whether a text has just runes. -/
def validB (s : ByteArray) : Bool := Lib.validD (bl s)
theorem chAt_valid (l : Bs) (a : Nat) : (∀ p ∈ chAt a l, 0 ≤ p.2) ↔ Lib.validD l = true := by
  rw [← places_valid l a]
  induction l using len_ind generalizing a with
  | h0 => simp [chAt_nil, placesAt_nil]
  | h1 l h ih =>
    rw [chAt_step a h, placesAt_step a h]
    simp only [List.forall_mem_cons]
    rw [ih]
    cases hb : badL l with
    | true => simp
    | false =>
      simp
theorem encode_enc {c : Nat} (h : okRune (c : Int)) : Utf8.encode (c : Int) = mkB (enc (c : Int)) := by
  have hv : Utf8.valid (c : Int) = true := by
    unfold okRune at h
    unfold Utf8.valid
    simp
    omega
  unfold Utf8.encode
  simp only
  rw [if_pos hv, Int.toNat_natCast]
  unfold enc Lib.encodeRune mkB
  unfold okRune at h
  by_cases h1 : c < 128
  · rw [if_pos h1, Lib.encodeRuneZ_one (by omega) (by omega)]
    rfl
  · rw [if_neg h1]
    by_cases h2 : c < 2048
    · rw [if_pos h2, Lib.encodeRuneZ_two (by omega) (by omega)]
      simp only [List.map_cons, List.map_nil]
      rw [show (192 + (c : Int) / 64).toNat = 192 + c / 64 by omega, show (128 + (c : Int) % 64).toNat = 128 + c % 64 by omega]
    · rw [if_neg h2]
      by_cases h3 : c < 65536
      · rw [if_pos h3, Lib.encodeRuneZ_three (by omega)]
        simp only [List.map_cons, List.map_nil]
        rw [show (224 + (c : Int) / 4096).toNat = 224 + c / 4096 by omega, show (128 + (c : Int) / 64 % 64).toNat = 128 + c / 64 % 64 by omega, show (128 + (c : Int) % 64).toNat = 128 + c % 64 by omega]
      · rw [if_neg h3, Lib.encodeRuneZ_four (by omega) (by omega)]
        simp only [List.map_cons, List.map_nil]
        rw [show (240 + (c : Int) / 262144).toNat = 240 + c / 262144 by omega, show (128 + (c : Int) / 4096 % 64).toNat = 128 + c / 4096 % 64 by omega, show (128 + (c : Int) / 64 % 64).toNat = 128 + c / 64 % 64 by omega, show (128 + (c : Int) % 64).toNat = 128 + c % 64 by omega]
theorem add_text (u : World) (a b : List UInt8) (h : a.length + b.length ≤ 1000000) : (Op.stringOp .add (mkB a) (mkB b)).run Try.prog u = .ok (.string (mkB (a ++ b))) u := by
  have h := run_string_add_sum (P := Try.prog) u (mkB a) (mkB b) (show (mkB a).size + (mkB b).size ≤ 9223372036854775807 by rw [← bl_len, ← bl_len, bl_mk, bl_mk]; omega)
  have e : mkB a ++ mkB b = mkB (a ++ b) := by
    rw [← mk_bl (mkB a ++ mkB b)]
    congr 1
  rw [e] at h
  exact h
section
set_option maxHeartbeats 3200000
set_option maxRecDepth 100000
theorem rvalid_any (s : ByteArray) (w : World) (hl : s.size ≤ 1000) : Calls Try.prog 15 #[.string s] w fun e w' => e = .returned (.bool (validB s)) ∧ RowKit.Below w.heap.size w w' := by
  have hv := chAt_valid (bl s) 0
  have HC := Lib.hid (rchars_any s w hl)
  unfold validB
  obtain ⟨B, hB⟩ : ∃ B, Lib.validD (bl s) = B := ⟨_, rfl⟩
  rw [hB] at hv ⊢
  clear hB
  go_enter Try.func15, Try.ntmps15
  go_wp2_with fail
  refine HC.out.mono ?_
  rintro e w1 ⟨A, c, rfl, hlc, hcm, -, hr, hb⟩
  have hlen := chAt_len (bl s) 0
  have hpl := places_len (bl s) 0
  rw [bl_len] at hpl
  obtain ⟨L, hL⟩ : ∃ L, chAt 0 (bl s) = L := ⟨_, rfl⟩
  rw [hL] at hv hr hlc hlen ⊢
  have hlm : L.length ≤ 1000 := by omega
  have HV := Lib.hid hv; have HR := Lib.hid hr; have HB := Lib.hid hb
  clear hv hr hb hlen hpl hL HC
  go_wp2
  go_loopw [8] (fun sk wr => ∃ k : Nat, sk = .int .i64 k ∧ k ≤ L.length ∧ Aside (RowKit.Below w1.heap.size w1 wr) ∧ Aside (∀ (j : Nat) (h : j < L.length), j < k → 0 ≤ L[j].2)) (fun sk _ => L.length - (intOf sk).toNat)
  case atStart => exact ⟨0, rfl, by omega, RowKit.Below.refl _ _, fun j _ h => by omega⟩
  case round =>
    obtain ⟨k, rfl, hk, BW, E⟩ := hrel
    have k0 : (0 : Int) ≤ (k : Int) := by omega
    by_cases hlt : k < L.length
    · have k1 : (k : Int) < (L.length : Int) := by omega
      have hat := chC_at L k hlt
      obtain ⟨b, off, rfl, c0⟩ := (HR.out.below BW.out) _ _ hat.1
      obtain ⟨b', off', e', c1'⟩ := (HR.out.below BW.out) _ _ hat.2
      injection e' with e'; injection e' with e1 e2 _; subst e1; subst e2
      have c1 : wr.cell? ⟨b, off + k * 2 + 1, none⟩ = some (.int .i64 (L[k].1 : Nat)) := c1'
      clear c1'
      have HK := Lib.hid (show ∀ h : 0 ≤ L[k].2, ∀ (j : Nat) (h : j < L.length), j < k + 1 → 0 ≤ L[j].2 from fun h j hj hjk => by
        by_cases e : j = k
        · subst e; exact h
        · exact E.out j hj (by omega))
      have HN := Lib.hid (show L[k].2 < 0 → B = false from fun h => by
        cases B with
        | false => rfl
        | true => have := HV.out.mpr rfl L[k] (List.getElem_mem hlt); omega)
      generalize L[k] = x at c0 c1 HK HN
      obtain ⟨x1, x2⟩ := x
      simp only at c0 c1
      have HBW := Lib.hid (show RowKit.Below w1.heap.size w1 (wr.alloc (.cells #[.int .i32 x2, .int .i64 (x1 : Nat)] 83)) from BW.out.alloc BW.out.size _)
      have hcell0 := cell_blk (heap_alloc_new wr (.cells #[.int .i32 x2, .int .i64 (x1 : Nat)] 83)) 0
      simp only [List.getElem?_toArray, List.getElem?_cons_zero] at hcell0
      clear hat
      by_cases hx : x2 < 0
      · have hbf := HN.out hx
        subst hbf
        go_wp2
        go_ret
        exact ⟨rfl, HB.out.trans (HBW.out.mono HB.out.size)⟩
      · have HK2 := Lib.hid (HK.out (show 0 ≤ x2 by omega))
        go_wp2
        go_roundw
        case rel => exact ⟨k + 1, by go_num, by omega, (show Aside _ from HBW.out), (show Aside _ from HK2.out)⟩
        case measure => simp [intOf]; omega
    · obtain rfl : k = L.length := by omega
      have hbt : B = true := HV.out.mp fun p hp => by
        obtain ⟨j, hj, e⟩ := List.getElem_of_mem hp
        rw [← e]; exact E.out j hj hj
      subst hbt
      have HBF := Lib.hid (HB.out.trans (BW.out.mono HB.out.size))
      go_wp2
      go_ret
      exact ⟨rfl, HBF.out⟩
theorem rquote_any (s : ByteArray) (w : World) (hs : s.size ≤ 1000) : Calls Try.prog 14 #[.string s] w fun e w' => e = .returned (.string (mkB (encs (quoteC (runesB (bl s)))))) ∧ RowKit.Below w.heap.size w w' := by
  obtain ⟨T, hT⟩ : ∃ T, encs (quoteC (runesB (bl s))) = T := ⟨_, rfl⟩
  rw [hT]
  have HT := Lib.hid hT; clear hT
  have HB0 := Lib.hid (show RowKit.Below w.heap.size w (w.iter s 0) from (RowKit.Below.refl _ w).alloc (Nat.le_refl _) _)
  have HI0 := Lib.hid (World.iter_heap w s 0)
  go_enter Try.func14, Try.ntmps14
  go_wp2
  go_loopw [3] (fun s3 wr => ∃ (pos : Nat) (xs : List UInt8), s3 = .string (mkB xs) ∧ pos ≤ s.size ∧ xs.length ≤ 5 * pos ∧ Aside (wr.heap[w.heap.size]? = some (.stringIter s pos)) ∧ Aside (RowKit.Below w.heap.size w wr) ∧ Aside (xs ++ encs (quoteC (runesB ((bl s).drop pos))) = T)) (fun _ wr => s.size - wr.iterPos w.heap.size)
  case atStart => exact ⟨0, [], rfl, Nat.zero_le _, Nat.zero_le _, HI0.out, HB0.out, HT.out⟩
  case round =>
    obtain ⟨pos, xs, rfl, hle, hfew, HI, HB, HE⟩ := hrel
    have hit := HI.out
    by_cases hp : pos < s.size
    · have hne : (bl s).drop pos ≠ [] := drop_ne hp
      have hdd : dL ((bl s).drop pos) = Utf8.decode s pos := Lib.decodeL_drop s pos
      have hE := HE.out
      rw [runesB_step hne, List.drop_drop, quoteC_cons, encs_app] at hE
      have hok := dL_ok _ hne
      obtain ⟨c, wd', hcw⟩ : ∃ c wd, dL ((bl s).drop pos) = (c, wd) := ⟨_, _, rfl⟩
      have hwd : 1 ≤ wd' := by have := dL_pos ((bl s).drop pos); rw [hcw] at this; exact this
      have hwl : pos + wd' ≤ s.size := by have := dL_le hne; rw [hcw, List.length_drop, bl_len] at this; simp only at this; omega
      rw [hcw] at hE hok
      simp only at hE hok
      obtain ⟨w2, hw2⟩ : ∃ w2, w2 = wr.iterAt w.heap.size s (pos + wd') := ⟨_, rfl⟩
      have hnx : ∀ ty, (Instr.next (.pointer (some ⟨w.heap.size, 0, none⟩)) true ty).run Try.prog wr = .ok (.tuple #[.bool true, .int .i64 (pos : Nat), .int .i32 (c : Nat)]) w2 := fun ty => by
        rw [Lib.run_next_any_at wr w.heap.size s pos ty hit hp, ← hdd, hcw, hw2]
      have HI2 := Lib.hid (show w2.heap[w.heap.size]? = some (.stringIter s (pos + wd')) by rw [hw2]; exact Lib.iterAt_heap wr _ s pos _ hit)
      have HW2 := Lib.hid (show RowKit.Below w.heap.size w w2 by rw [hw2]; exact Lib.below_iterAt HB.out (Nat.le_refl _) s _)
      have hcs := rspecial_any (c : Int) w2
      have hl4 := enc_len4 (c : Int)
      have hen := encode_enc hok
      have HIT := Lib.hid hit; have HWD := Lib.hid hwd; have HP := Lib.hid hp; have HWL := Lib.hid hwl
      clear hne hdd hcw hw2 hit hok
      cases hsp : specialP (c : Int) with
      | true =>
        rw [hsp] at hcs hE
        have HE2 := Lib.hid hE; have HC := Lib.hid hcs
        clear hE HE hcs hsp
        go_wp2_with fail
        refine HC.out.mono ?_
        rintro e w3 ⟨rfl, rfl⟩
        have ha1 : (Op.stringOp .add (mkB xs) ⟨#[92]⟩).run Try.prog w3 = .ok (.string (mkB (xs ++ [92]))) w3 := add_text w3 xs [92] (by simp; omega)
        have ha2 := add_text w3 (xs ++ [92]) (enc (c : Int)) (by simp; omega)
        rw [← hen] at ha2
        have HL4 := Lib.hid hl4
        clear hl4 hen
        go_wp2
        go_roundw
        case rel => exact ⟨_, xs ++ 92 :: enc (c : Int), rfl, HWL.out, by have := HL4.out; have := HWD.out; simp; omega, HI2.out, HW2.out, by
          have e92 : enc 92 = [92] := by decide
          rw [← HE2.out]; simp [encs, e92]; exact trivial⟩
        case measure =>
          have i1 := HI2.out
          have i2 := HIT.out
          have i3 := HWD.out
          have i4 := HP.out
          simp only [World.iterPos, i1, i2]
          omega
      | false =>
        rw [hsp] at hcs hE
        have HE2 := Lib.hid hE; have HC := Lib.hid hcs
        clear hE HE hcs hsp
        go_wp2_with fail
        refine HC.out.mono ?_
        rintro e w3 ⟨rfl, rfl⟩
        have ha2 := add_text w3 xs (enc (c : Int)) (by omega)
        rw [← hen] at ha2
        have HL4 := Lib.hid hl4
        clear hl4 hen
        go_wp2
        go_roundw
        case rel => exact ⟨_, xs ++ enc (c : Int), rfl, HWL.out, by have := HL4.out; have := HWD.out; simp; omega, HI2.out, HW2.out, by rw [← HE2.out]; simp [encs]; exact trivial⟩
        case measure =>
          have i1 := HI2.out
          have i2 := HIT.out
          have i3 := HWD.out
          have i4 := HP.out
          simp only [World.iterPos, i1, i2]
          omega
    · obtain rfl : pos = s.size := by omega
      have hnx : ∀ ty, (Instr.next (.pointer (some ⟨w.heap.size, 0, none⟩)) true ty).run Try.prog wr = .ok (.tuple #[.bool false]) wr := fun ty => Lib.run_next_end_at wr w.heap.size s _ ty hit hp
      have hE := HE.out
      rw [List.drop_eq_nil_of_le (by rw [bl_len]; exact Nat.le_refl _), runesB_nil] at hE
      have hxs : xs = T := by simpa [quoteC, encs] using hE
      subst hxs
      clear hE HE hit
      go_wp2
      go_ret
      exact ⟨rfl, HB.out⟩
end
end Go.Proofs.Ytdihaabjmlhemaa
