/-
  FrameTells (P2.6): for every bytes, every place behind the length and every turn of the byte there, the frame has another sum. The condition is the table's: it holds what its initialiser lays, which the card ties to the program's text.
-/
import Derived.Test.YtnbgpmgcnfhfeaaDoorFt
namespace Go.Proofs.YtnbgpmgcnfhfeaaDoor
set_option linter.unusedVariables false
set_option linter.unusedSimpArgs false
open Go.ChangeShapes Go.WideShapes Go.ChangeAt Go.RowKit

section
set_option maxHeartbeats 1600000
set_option maxRecDepth 100000
theorem ftells_walk (A : Option Addr) (ca : Nat) (xs : List UInt8) (at_ : Int) (n : Nat) (w : World) (ht : StepsMet w) (hx : Rd w A (xs.map Bv)) (hlx : xs.length ≤ 9223372036854775807)
    (ha0 : -9223372036854775808 ≤ at_) (ha1 : at_ ≤ 9223372036854775807) (hn : n < 256) :
    Calls Tryd.prog 9 #[.slice A xs.length ca, .int .i64 at_, .int .u8 n] w fun e w' => e = .returned (.bool true) ∧ Below w.heap.size w w' := by
  have HT := Lib.hid ht; clear ht
  go_enter Tryd.func9, Tryd.ntmps9
  go_wp2_with fail
  refine (live_any _ HT.out).mono ?_
  rintro e w1 ⟨rfl, hb1⟩
  have hx1 := hx.below hb1
  have HT1 := Lib.hid (HT.out.below hb1)
  clear hx HT
  by_cases h1 : (xs.length : Int) ≤ 4000
  · by_cases h2 : 0 ≤ at_
    · by_cases h3 : at_ < (xs.length : Int) + 4
      · by_cases h4 : n = 0
        · subst h4
          go_wp2_with fail
          refine (live_any _ HT1.out).mono ?_
          rintro e w2 ⟨rfl, hb2⟩
          go_wp2
          go_ret
          exact ⟨rfl, hb1.trans (hb2.mono hb1.size)⟩
        · have h4' : ((n : Int) == 0) = false := by rw [beq_eq_false_iff_ne]; omega
          obtain ⟨j, rfl⟩ := Int.eq_ofNat_of_zero_le h2
          have hj : j < xs.length + 4 := by omega
          go_wp2_with fail
          refine (fput_any A ca xs w1 HT1.out hx1 (by omega)).mono ?_
          rintro e w2 ⟨v2, rfl, own2, hb2⟩
          have hfl := frameF_length xs
          have hpl := pu_len 10 xs.length (by omega)
          have hpp := pu_pos xs.length
          obtain ⟨m, hm⟩ : ∃ m, m = (frameF xs).length := ⟨_, rfl⟩
          obtain ⟨i, hi⟩ : ∃ i, i = m - 1 - j := ⟨_, rfl⟩
          have hm2 : m ≤ 5000 := by omega
          have hm3 : xs.length + 5 ≤ m := by omega
          have hi2 : i < m := by omega
          have hi3 : (pu xs.length).length ≤ i := by omega
          obtain ⟨y, hy⟩ : ∃ y : UInt8, (frameF xs)[i]? = some y := ⟨(frameF xs)[i]'(by omega), List.getElem?_eq_getElem (by omega)⟩
          have hyn : (frameF xs)[i]? ≠ some (UInt8.ofNat (y.toNat ^^^ n)) := by
            rw [hy]
            intro h
            injection h with h
            have h8 : y.toNat ^^^ n < 256 := Nat.xor_lt_two_pow (n := 8) y.toNat_lt hn
            have h7 := congrArg UInt8.toNat h
            rw [ofNat_toNat h8] at h7
            exact h4 (xor_right_inj (c := y.toNat) (by rw [Nat.xor_zero, ← h7]))
          have hgt := getF_turned xs i (UInt8.ofNat (y.toNat ^^^ n)) (by omega) hi3 (by omega) hyn
          rw [← hm] at own2
          have hcells : ∃ g cap, v2 = .slice (some ⟨g, 0, none⟩) m cap := by
            obtain ⟨g, cap, hv, _⟩ := own2.form (by omega)
            exact ⟨g, cap, hv⟩
          obtain ⟨g, cap, rfl⟩ := hcells
          have hcy := own2.cells (g := g) rfl i (Bv y) (by rw [List.getElem?_map, hy]; rfl)
          have hfr : w2.frozen? ⟨g, i, none⟩ = false := own2.frozenAt i
          rw [add_flat] at hcy
          simp only [Bv_def] at hcy
          have hsto := own2.stored i (Bv (UInt8.ofNat (y.toNat ^^^ n)))
          rw [← List.map_set] at hsto
          have hxo : bits .xor .u8 (y.toNat : Int) (n : Int) = ((y.toNat ^^^ n : Nat) : Int) := u8_xor_nat y.toNat n y.toNat_lt hn
          have hz : y.toNat ^^^ n < 256 := Nat.xor_lt_two_pow (n := 8) y.toNat_lt hn
          have hlo := fun (k : Nat) h => (own2.lt k h).1
          have HT2 := Lib.hid (HT1.out.below hb2)
          have hset : ((frameF xs).set i (UInt8.ofNat (y.toNat ^^^ n))).length = m := by rw [List.length_set, hm]
          generalize (frameF xs).set i (UInt8.ofNat (y.toNat ^^^ n)) = fr at *
          generalize y.toNat = yn at *
          generalize yn ^^^ n = z at *
          clear own2 hy hyn hfl hpl hpp hi3 hm hx1
          have HGT := Lib.hid hgt; clear hgt
          have HSO := Lib.hid hsto; clear hsto
          have HZ := Lib.hid hz; clear hz
          have HSET := Lib.hid hset; clear hset
          have hij : (m : Int) - 1 - (j : Int) = (i : Int) := by omega
          have HI := Lib.hid hi; clear hi
          have hb2' := hb1.trans (hb2.mono hb1.size)
          have hs1 := hb1.size
          go_wp2_with fail
          rw [byte_of (n := z) rfl HZ.out]
          have hso := HSO.out
          have hb3 : Below w1.heap.size w1 (w2.setCell ⟨g, i, none⟩ (Bv (UInt8.ofNat z))) := hb2.grown hso.2 hb2.size (fun k h => hlo k (by injection h with h; subst h; rfl))
          generalize w2.setCell ⟨g, i, none⟩ (Bv (UInt8.ofNat z)) = w3 at *
          have hb3' := hb1.trans (hb3.mono hs1)
          have HT3 := Lib.hid (HT1.out.below hb3)
          obtain ⟨A', c', e', rd3, -, hmc, hcm⟩ := own_rd hso.1
          injection e' with e1 e2 e3
          subst e1 e3
          unfold maxLen at hcm
          clear hso HSO hb2 hb2' hcy hfr hlo hb3
          refine (get_len _ _ m fr w3 HSET.out HT3.out rd3 hmc (by omega) (by omega)).mono ?_
          rintro e w4 ⟨v4, rfl, own4, hb4⟩
          rw [HGT.out] at own4 ⊢
          have e4 : v4 = .slice none 0 0 ∨ ∃ A c, v4 = .slice A 0 c := by
            obtain ⟨A, c, rfl, -⟩ := own_rd own4
            exact Or.inr ⟨A, c, rfl⟩
          have hb4' := hb3'.trans (hb4.mono hb3'.size)
          rw [show (Value.tuple #[v4, .int .i64 ((0 : Nat) : Int), .int .i64 ((20 : Nat) : Int)]) = .tuple #[v4, .int .i64 0, .int .i64 20] from rfl]
          clear own4
          obtain ⟨A4, c4, rfl⟩ : ∃ A c, v4 = .slice A 0 c := e4.elim (fun h => ⟨none, 0, h⟩) (fun h => h)
          go_wp2
          go_ret
          exact ⟨rfl, hb4'⟩
      · have h3' : (xs.length : Int) + 4 ≤ at_ := by omega
        clear h3
        go_wp2_with fail
        refine (live_any _ HT1.out).mono ?_
        rintro e w2 ⟨rfl, hb2⟩
        go_wp2
        go_ret
        exact ⟨rfl, hb1.trans (hb2.mono hb1.size)⟩
    · have h2' : at_ < 0 := by omega
      clear h2
      go_wp2_with fail
      refine (live_any _ HT1.out).mono ?_
      rintro e w2 ⟨rfl, hb2⟩
      go_wp2
      go_ret
      exact ⟨rfl, hb1.trans (hb2.mono hb1.size)⟩
  · have h1' : decide (4000 < (xs.length : Int)) = true := by simp; omega
    clear h1
    go_wp2_with fail
    refine (live_any _ HT1.out).mono ?_
    rintro e w2 ⟨rfl, hb2⟩
    go_wp2
    go_ret
    exact ⟨rfl, hb1.trans (hb2.mono hb1.size)⟩

theorem frameTells_contract (H : Type) (enc : TypeId × Value → H) (W : World) (base : Nat) (args : Array Value) (ds gs : List (DataW H)) (before : List MemPlace)
    (hval : ∀ (j : Nat) t v, Tryd.f9.params[j]? = some t → args[j]? = some v → Value.okWide Tryd.prog W .any base t v)
    (hW : DataW.Whole enc Tryd.prog Tryd.f9.params.toList Rows.frameTellsSpec.vars false W args.toList ds gs before) (hL : laidMetH Tryd.prog Rows.frameTellsRow.laid W) :
    Calls Tryd.prog 9 args W fun e W' => ∃ v, e = .returned v ∧ Rows.frameTellsSpec.post enc Tryd.prog Tryd.f9 false true false false W args v W' := by
  have hW' := hW
  obtain ⟨p, q, hA0, hV, rfl, hfz, hnd⟩ := hW
  have hA : DataW.TrodAll enc Tryd.prog W 0 (fun _ => true) true Tryd.f9.params.toList args.toList ds p := hA0
  rw [Tryd.params9] at hA hval
  obtain ⟨v0, vs0, d0, ds0, p0, q0, hargs, rfl, rfl, h0, r0⟩ := trodAll_cons hA
  obtain ⟨v1, vs1, d1, ds1, p1, q1, rfl, rfl, rfl, h1, r1⟩ := trodAll_cons r0
  obtain ⟨v2, vs2, d2, ds2, p2, q2, rfl, rfl, rfl, h2, r2⟩ := trodAll_cons r1
  obtain ⟨rfl, rfl, rfl⟩ := trodAll_nil r2
  obtain rfl : args = #[v0, v1, v2] := by cases args; simp_all
  obtain ⟨rfl, rfl⟩ := trodVars_none hV
  obtain ⟨A0, c0, xs0, rfl, hm0, hx0⟩ := open_bytes Tryd.underlying23 Tryd.underlying5 (by kernel_rfl) (hval 0 23 v0 rfl rfl) h0
  obtain ⟨a1, rfl, rfl, rfl, w1⟩ := open_int Tryd.underlying3 (hval 1 3 v1 rfl rfl) h1
  obtain ⟨z2, rfl, rfl, rfl, w2⟩ := open_int Tryd.underlying5 (hval 2 5 v2 rfl rfl) h2
  clear hA0 hA
  unfold maxLen at hm0
  have b1 := bounds_i64 w1
  have b2 := bounds_u8 w2
  obtain ⟨n2, rfl⟩ := Int.eq_ofNat_of_zero_le b2.1
  refine (ftells_walk A0 c0 xs0 a1 n2 W (table hL) hx0 (by omega) (by omega) (by omega) (by omega)).mono fun e W' ⟨he, hg⟩ => ?_
  subst he
  exact ⟨_, rfl, law_end laidOut (by kernel_rfl) (by kernel_rfl) Tryd.underlying4 rfl hW' ⟨rfl, rfl, rfl⟩ hg⟩

theorem frameTells_met (os : Os) : laidMet Tryd.prog Rows.frameTellsRow.laid ((laidWorld os).forCall (fun _ _ => 0) ⟨#[], #[.slice none 0 0, .int .i64 0, .int .u8 0], []⟩).memory :=
  laidMet_of_run' 8 (by kernel_rfl) (by kernel_rfl)
theorem frameTells_reads (os : Os) {H : Type} (enc : TypeId × Value → H) : ∃ places, DataW.whole enc Tryd.prog ((laidWorld os).forCall (fun _ _ => 0) ⟨#[], #[.slice none 0 0, .int .i64 0, .int .u8 0], []⟩).memory Tryd.f9.params.toList Rows.frameTellsSpec.vars false (#[.slice none 0 0, .int .i64 0, .int .u8 0] : Array Value).toList 8 = some ([.nil, .lit (.int .i64 0), .lit (.int .u8 0)], [], places) :=
  ⟨[], by kernel_rfl⟩

set_option maxRecDepth 100000 in
theorem frameTells_lifted (os : Os) (started : os.Started) (H : Type) (enc : TypeId × Value → H) (F : Stop.Interp) :
    ReturnsInHanded {} Tryd.checked os 9 .any ((OpenSpec.ofChange Rows.frameTellsSpec).preRow enc Tryd.prog Tryd.f9 Rows.frameTellsRow.domain false Rows.frameTellsRow.laid) (((OpenSpec.ofChange Rows.frameTellsSpec).at F).post enc Tryd.prog Tryd.f9 false true false false) := by
  obtain ⟨places, hx⟩ := frameTells_reads os enc
  refine returnsInHanded_of_row (C := Tryd.checked) (s := OpenSpec.ofChange Rows.frameTellsSpec) ownKn started (by kernel_rfl) Tryd.func9
    (witness_row_at (enc := enc) (C := Tryd.checked) false (laidWorld os) #[.slice none 0 0, .int .i64 0, .int .u8 0] rfl (by kernel_rfl) (by kernel_rfl) (by kernel_rfl)
      (OpenSpec.preRow_of_cond 8 hx (by kernel_rfl) (fun k hk => by cases hk) (by kernel_rfl) (frameTells_met os))) ?_
  intro W base args ds gs before hval hW _ _ _ hL _ _
  exact frameTells_contract H enc W base args ds gs before hval hW hL

theorem frameTells_said : Rows.FrameTellsSaid :=
  OpenClaim.holds_of_cond 9 Tryd.f9 rfl rfl rfl rfl rfl rfl rfl ⟨rfl, rfl, rfl, rfl, rfl⟩ rfl rfl rfl rfl rfl (by kernel_rfl) Tryd.func9 (by kernel_rfl)
    (of_decide_eq_true (by kernel_rfl)) (by unfold Func.isWrapper; first | (rw [if_pos (by decide +kernel)]; kernel_rfl) | (rw [if_neg (by decide +kernel)]; exact ⟨rfl, rfl⟩))
    (fun os started H enc _ F => by rw [OpenClaim.pre_eq_preRow]; exact frameTells_lifted os started H enc F)

theorem frameTells_plain (f : FuncId) (fn : Func) (hf : Tryd.pinned.checked.prog.funcNamed "manometer/manometerlaw02.FrameTells" = some f) (hfn : Tryd.pinned.checked.prog.funcs[f]? = some fn) :
    false = Tryd.pinned.checked.prog.looks [] ∧ ∀ (j : Nat) t, fn.params[j]? = some t → Tryd.pinned.checked.prog.wantsStandIn t = false := by
  obtain rfl : f = 9 := Option.some.inj ((show Tryd.prog.funcNamed "manometer/manometerlaw02.FrameTells" = some 9 by kernel_rfl).symm.trans hf) |>.symm
  obtain rfl : fn = Tryd.f9 := (Option.some.inj (Tryd.func9.symm.trans hfn)).symm
  refine ⟨by kernel_rfl, fun j t ht => ?_⟩
  rw [Tryd.params9] at ht
  have hm : t = 23 ∨ t = 3 ∨ t = 5 := by simpa using Array.mem_of_getElem? ht
  rcases hm with rfl | rfl | rfl
  · exact (show Tryd.prog.wantsStandIn 23 = false by kernel_rfl)
  · exact (show Tryd.prog.wantsStandIn 3 = false by kernel_rfl)
  · exact (show Tryd.prog.wantsStandIn 5 = false by kernel_rfl)

theorem frameTells_card : Rows.FrameTellsCardSaid :=
  Claim7.holds_tied_plain_at .later [] _ _ _ _ frameTells_said (fun _ h => by cases h) (by kernel_rfl) (fun _ h => by cases h) frameTells_row_tie rfl ⟨rfl, rfl⟩ (by kernel_rfl) rfl frameTells_plain (by kernel_rfl)
#print axioms frameTells_card
end
end Go.Proofs.YtnbgpmgcnfhfeaaDoor
