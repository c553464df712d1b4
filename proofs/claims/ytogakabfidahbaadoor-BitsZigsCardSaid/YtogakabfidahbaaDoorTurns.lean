/-
  BitsZigs (P1.4) and BitsTurns (P1.7): for every two numbers Zig, Zag, Lead and Trail are the plain answers'; Zig and Zag are each other's turning, and a number is its bits between those that lead and those that trail. The library's table of places is listed and tied to the program's text.
-/
import Derived.Test.YtogakabfidahbaaDoorLive
import Derived.Test.YtogakabfidahbaaDoorTz
import Derived.Test.YtogakabfidahbaaDoorLaw
import Derived.Test.YtogakabfidahbaaDoorCards
import Derived.Test.YtogakabfidahbaaDoorTie
import Derived.Deep.DeepHandedRow
import Derived.Lib.LaidTab
namespace Go.Proofs.YtogakabfidahbaaDoor
set_option linter.unusedVariables false
set_option linter.unusedSimpArgs false
open Go.ChangeShapes Go.WideShapes Go.ChangeAt Go.RowKit

/-- The library's table holds its numbers. -/
def TabMet (w : World) : Prop := ∀ i : Nat, i < 64 → w.cell? ⟨0, i, none⟩ = some (.int .u8 (tab.getD i 0 : Nat))
theorem TabMet.below {w w' : World} (h : TabMet w) (hb : Below w.heap.size w w') : TabMet w' := fun i hi =>
  (hb.cell (p := ⟨0, i, none⟩) (World.block_lt_of_cell? w _ (h i hi))).trans (h i hi)

section
set_option maxHeartbeats 1600000
set_option maxRecDepth 100000
theorem zigs_walk (n : Nat) (s : Int) (w : World) (hn : n < 18446744073709551616) (h0 : -9223372036854775808 ≤ s) (h1 : s < 9223372036854775808) (ht : TabMet w) :
    Calls Tryd.prog 3 #[.int .u64 n, .int .i64 s] w fun e w' => e = .returned (.bool true) ∧ Below w.heap.size w w' := by
  have HT := Lib.hid ht; clear ht
  go_enter Tryd.func3, Tryd.ntmps3
  go_wp2_with fail
  refine (live_any _).mono ?_
  rintro e w1 ⟨rfl, hb1⟩
  have HT1 := Lib.hid (HT.out.below hb1)
  go_wp2_with (first
    | (go_at_call 6; refine (zig_any s _ h0 h1).mono ?_; rintro e w' ⟨rfl, rfl⟩)
    | (go_at_call 7; refine (rzig_any s _ h0 h1).mono ?_; rintro e w' ⟨rfl, rfl⟩)
    | (go_at_call 8; refine (zag_any n _ hn).mono ?_; rintro e w' ⟨rfl, rfl⟩)
    | (go_at_call 9; refine (rzag_any n _ hn).mono ?_; rintro e w' ⟨rfl, rfl⟩)
    | (go_at_call 10; refine (lead_any n _ hn).mono ?_; rintro e w' ⟨rfl, rfl⟩)
    | (go_at_call 11; refine (rlead_any n _ hn).mono ?_; rintro e w' ⟨rfl, rfl⟩)
    | (go_at_call 12; refine (trail_any n _ hn HT1.out).mono ?_; rintro e w' ⟨rfl, rfl⟩)
    | (go_at_call 13; refine (rtrail_any n _ hn).mono ?_; rintro e w' ⟨rfl, rfl⟩))
  go_ret
  exact ⟨rfl, hb1⟩

/-- What leads and what trails, of a number that is not 0. -/
theorem ends {n : Nat} (hn : n < 18446744073709551616) (h0 : n ≠ 0) : ∃ a : Nat, (64 - (Lib.bitLen n : Int)) = (a : Int) ∧ a + tzN n ≤ 63 ∧ n * 2 ^ a < 18446744073709551616 ∧ 9223372036854775808 ≤ n * 2 ^ a := by
  obtain ⟨p1, p2, p3, p4⟩ := (bitLenAux_spec 64 n (by omega)).2 h0
  obtain ⟨q1, q2⟩ := tzN_spec n h0
  unfold Lib.bitLen
  generalize Lib.bitLenAux 64 n = L at *
  have hle : 2 ^ tzN n ≤ n := by
    rcases Nat.lt_or_ge n (2 ^ tzN n) with hl | hl
    · rw [Nat.div_eq_of_lt hl] at q2; omega
    · exact hl
  have hlt : tzN n < L := (Nat.pow_lt_pow_iff_right (a := 2) (by omega)).1 (Nat.lt_of_le_of_lt hle p4)
  refine ⟨64 - L, by omega, by omega, ?_, ?_⟩
  · have := Nat.mul_lt_mul_of_pos_right p4 (Nat.two_pow_pos (64 - L))
    rwa [← Nat.pow_add, show L + (64 - L) = 64 from by omega] at this
  · have := Nat.mul_le_mul_right (2 ^ (64 - L)) p3
    rwa [← Nat.pow_add, show L - 1 + (64 - L) = 63 from by omega] at this

theorem turns_walk (n : Nat) (s : Int) (w : World) (hn : n < 18446744073709551616) (h0 : -9223372036854775808 ≤ s) (h1 : s < 9223372036854775808) (ht : TabMet w) :
    Calls Tryd.prog 4 #[.int .u64 n, .int .i64 s] w fun e w' => e = .returned (.bool true) ∧ Below w.heap.size w w' := by
  have HT := Lib.hid ht; clear ht
  have hzl := zigN_lt s h0 h1
  have hzr := zagN_range n hn
  go_enter Tryd.func4, Tryd.ntmps4
  go_wp2_with fail
  refine (live_any _).mono ?_
  rintro e w1 ⟨rfl, hb1⟩
  have HT1 := Lib.hid (HT.out.below hb1)
  go_wp2_with fail
  refine (zig_any s _ h0 h1).mono ?_
  rintro e w' ⟨rfl, rfl⟩
  go_wp2_with fail
  refine (zag_any (zigN s) _ hzl).mono ?_
  rintro e w' ⟨rfl, rfl⟩
  rw [zag_zig]
  go_wp2_with fail
  refine (zag_any n _ hn).mono ?_
  rintro e w' ⟨rfl, rfl⟩
  go_wp2_with fail
  refine (zig_any (zagN n) _ hzr.1 hzr.2).mono ?_
  rintro e w' ⟨rfl, rfl⟩
  rw [zig_zag]
  go_wp2_with fail
  refine (lead_any n _ hn).mono ?_
  rintro e w' ⟨rfl, rfl⟩
  by_cases hz : n = 0
  · subst hz
    rw [bitLen_zero]
    go_wp2_with fail
    refine (trail_any 0 _ hn HT1.out).mono ?_
    rintro e w' ⟨rfl, rfl⟩
    rw [tzN_zero]
    go_wp2
    go_ret
    exact ⟨rfl, hb1⟩
  · obtain ⟨a, ha, hab, hup, hlo⟩ := ends hn hz
    rw [ha]
    have hz' : ((n : Int) == 0) = false := by rw [beq_eq_false_iff_ne]; omega
    go_wp2_with fail
    refine (trail_any n _ hn HT1.out).mono ?_
    rintro e w' ⟨rfl, rfl⟩
    obtain ⟨q1, q2⟩ := tzN_spec n hz
    generalize tzN n = t at *
    clear ha hz
    have hab' : (a : Int) + (t : Int) ≤ 63 := by omega
    have ec : (n : Int) * 2 ^ a = ((n * 2 ^ a : Nat) : Int) := by rw [Int.natCast_mul, Int.natCast_pow]; rfl
    have f1 : IntKind.u64.wrap ((n : Int) * 2 ^ a) = (n : Int) * 2 ^ a := by rw [ec, IntWalk.u64_in _ (by omega)]
    have f2 : (n : Int) * 2 ^ a / 9223372036854775808 = 1 := by rw [ec]; omega
    have f3 : bits .and .u64 ((n : Int) / 2 ^ t) 1 = 1 := by rw [bit_one t hn, bit_cast, q2]; rfl
    have f4 : (n : Int) * 2 ^ a / 2 ^ a = (n : Int) := Int.mul_ediv_cancel _ (Int.ne_of_gt (Int.pow_pos (by omega)))
    have f5 : IntKind.u64.wrap ((n : Int) / 2 ^ t * 2 ^ t) = (n : Int) := by
      have e : (n : Int) / 2 ^ t * 2 ^ t = ((n / 2 ^ t * 2 ^ t : Nat) : Int) := by rw [Int.natCast_mul, Int.natCast_ediv, Int.natCast_pow]; rfl
      have e2 : n / 2 ^ t * 2 ^ t = n := by have := Nat.div_add_mod n (2 ^ t); rw [q1, Nat.mul_comm] at this; omega
      rw [e, e2, IntWalk.u64_in _ (by omega)]
    clear ec
    go_wp2
    go_ret
    exact ⟨rfl, hb1⟩
end

theorem tabGlobal : Tryd.prog.globalNamed "math/bits.deBruijn64tab" = some 0 := by kernel_rfl
theorem tabType : (Tryd.prog.globals[0]?).map (·.type) = some 43 := by kernel_rfl
theorem tabCells : Tryd.prog.cellsOf 43 = 64 := by kernel_rfl
theorem cellsU8 : Tryd.prog.cellsOf 5 = 1 := by kernel_rfl
theorem table {W : World} (h : laidMetH Tryd.prog Rows.bitsZigsRow.laid W) : TabMet W := fun i hi => by
  have t : Lib.TabIs Tryd.prog W "math/bits.deBruijn64tab" .u8 (tab.map Int.ofNat) := Lib.tabIs_of_head (rest := []) tabGlobal tabType Tryd.underlying43 Tryd.underlying5 cellsU8 tabCells h
  have c := t.cell tabGlobal i (by simpa [tab] using hi)
  rw [c]
  congr 2
  rw [List.getD_eq_getElem?_getD, List.getD_eq_getElem?_getD, List.getElem?_map]
  cases tab[i]? <;> rfl

/-- A world for the witness: the settled one, the table holding what its initialiser lays. -/
noncomputable def laidWorld (os : Os) : World :=
  { World.holding Tryd.prog os ⟨#[], #[], []⟩ with heap := (World.holding Tryd.prog os ⟨#[], #[], []⟩).heap.modify 0 fun
      | .cells _ t frozen => .cells #[.int .u8 0, .int .u8 1, .int .u8 56, .int .u8 2, .int .u8 57, .int .u8 49, .int .u8 28, .int .u8 3, .int .u8 61, .int .u8 58, .int .u8 42, .int .u8 50, .int .u8 38, .int .u8 29, .int .u8 17, .int .u8 4, .int .u8 62, .int .u8 47, .int .u8 59, .int .u8 36, .int .u8 45, .int .u8 43, .int .u8 51, .int .u8 22, .int .u8 53, .int .u8 39, .int .u8 33, .int .u8 30, .int .u8 24, .int .u8 18, .int .u8 12, .int .u8 5, .int .u8 63, .int .u8 55, .int .u8 48, .int .u8 27, .int .u8 60, .int .u8 41, .int .u8 37, .int .u8 16, .int .u8 46, .int .u8 35, .int .u8 44, .int .u8 21, .int .u8 52, .int .u8 32, .int .u8 23, .int .u8 11, .int .u8 54, .int .u8 26, .int .u8 40, .int .u8 15, .int .u8 34, .int .u8 20, .int .u8 31, .int .u8 10, .int .u8 25, .int .u8 14, .int .u8 19, .int .u8 9, .int .u8 13, .int .u8 8, .int .u8 7, .int .u8 6] t frozen
      | o => o }

theorem bitsZigs_contract (H : Type) (enc : TypeId × Value → H) (W : World) (base : Nat) (args : Array Value) (ds gs : List (DataW H)) (before : List MemPlace)
    (hval : ∀ (j : Nat) t v, Tryd.f3.params[j]? = some t → args[j]? = some v → Value.okWide Tryd.prog W .any base t v)
    (hW : DataW.Whole enc Tryd.prog Tryd.f3.params.toList Rows.bitsZigsSpec.vars false W args.toList ds gs before) (hL : laidMetH Tryd.prog Rows.bitsZigsRow.laid W) :
    Calls Tryd.prog 3 args W fun e W' => ∃ v, e = .returned v ∧ Rows.bitsZigsSpec.post enc Tryd.prog Tryd.f3 false true false false W args v W' := by
  have hW' := hW
  obtain ⟨p, q, hA0, hV, rfl, hfz, hnd⟩ := hW
  have hA : DataW.TrodAll enc Tryd.prog W 0 (fun _ => true) true Tryd.f3.params.toList args.toList ds p := hA0
  rw [Tryd.params3] at hA hval
  obtain ⟨v0, vs0, d0, ds0, p0, q0, hargs, rfl, rfl, h0, r0⟩ := trodAll_cons hA
  obtain ⟨v1, vs1, d1, ds1, p1, q1, rfl, rfl, rfl, h1, r1⟩ := trodAll_cons r0
  obtain ⟨rfl, rfl, rfl⟩ := trodAll_nil r1
  obtain rfl : args = #[v0, v1] := by cases args; simp_all
  obtain ⟨rfl, rfl⟩ := trodVars_none hV
  obtain ⟨z0, rfl, rfl, rfl, w0⟩ := open_int Tryd.underlying22 (hval 0 22 v0 rfl rfl) h0
  obtain ⟨a1, rfl, rfl, rfl, w1⟩ := open_int Tryd.underlying2 (hval 1 2 v1 rfl rfl) h1
  clear hA0 hA
  have b0 := bounds_u64 w0
  obtain ⟨n0, rfl⟩ := Int.eq_ofNat_of_zero_le b0.1
  have b1 := bounds_i64 w1
  refine (zigs_walk n0 a1 W (by omega) (by omega) (by omega) (table hL)).mono fun e W' ⟨he, hg⟩ => ?_
  subst he
  exact ⟨_, rfl, law_end laidOut (by kernel_rfl) (by kernel_rfl) Tryd.underlying4 rfl hW' ⟨rfl, rfl, rfl⟩ hg⟩

theorem bitsZigs_met (os : Os) : laidMet Tryd.prog Rows.bitsZigsRow.laid ((laidWorld os).forCall (fun _ _ => 0) ⟨#[], #[.int .u64 0, .int .i64 0], []⟩).memory :=
  laidMet_of_run' 8 (by kernel_rfl) (by kernel_rfl)
theorem bitsZigs_reads (os : Os) {H : Type} (enc : TypeId × Value → H) : ∃ places, DataW.whole enc Tryd.prog ((laidWorld os).forCall (fun _ _ => 0) ⟨#[], #[.int .u64 0, .int .i64 0], []⟩).memory Tryd.f3.params.toList Rows.bitsZigsSpec.vars false #[Value.int .u64 0, Value.int .i64 0].toList 8 = some ([.lit (.int .u64 0), .lit (.int .i64 0)], [], places) :=
  ⟨[], by kernel_rfl⟩

set_option maxRecDepth 100000 in
theorem bitsZigs_lifted (os : Os) (started : os.Started) (H : Type) (enc : TypeId × Value → H) (F : Stop.Interp) :
    ReturnsInHanded {} Tryd.checked os 3 .any ((OpenSpec.ofChange Rows.bitsZigsSpec).preRow enc Tryd.prog Tryd.f3 Rows.bitsZigsRow.domain false Rows.bitsZigsRow.laid) (((OpenSpec.ofChange Rows.bitsZigsSpec).at F).post enc Tryd.prog Tryd.f3 false true false false) := by
  obtain ⟨places, hx⟩ := bitsZigs_reads os enc
  refine returnsInHanded_of_row (C := Tryd.checked) (s := OpenSpec.ofChange Rows.bitsZigsSpec) ownKn started (by kernel_rfl) Tryd.func3
    (witness_row_at (enc := enc) (C := Tryd.checked) false (laidWorld os) #[.int .u64 0, .int .i64 0] rfl (by kernel_rfl) (by kernel_rfl) (by kernel_rfl)
      (OpenSpec.preRow_of_cond 8 hx (by kernel_rfl) (fun k hk => by cases hk) (by kernel_rfl) (bitsZigs_met os))) ?_
  intro W base args ds gs before hval hW _ _ _ hL _ _
  exact bitsZigs_contract H enc W base args ds gs before hval hW hL

theorem bitsZigs_said : Rows.BitsZigsSaid :=
  OpenClaim.holds_of_cond 3 Tryd.f3 rfl rfl rfl rfl rfl rfl rfl ⟨rfl, rfl, rfl, rfl, rfl⟩ rfl rfl rfl rfl rfl (by kernel_rfl) Tryd.func3 (by kernel_rfl)
    (of_decide_eq_true (by kernel_rfl)) (by unfold Func.isWrapper; first | (rw [if_pos (by decide +kernel)]; kernel_rfl) | (rw [if_neg (by decide +kernel)]; exact ⟨rfl, rfl⟩))
    (fun os started H enc _ F => by rw [OpenClaim.pre_eq_preRow]; exact bitsZigs_lifted os started H enc F)

theorem bitsZigs_plain (f : FuncId) (fn : Func) (hf : Tryd.pinned.checked.prog.funcNamed "manometer/manometerlaw01.BitsZigs" = some f) (hfn : Tryd.pinned.checked.prog.funcs[f]? = some fn) :
    false = Tryd.pinned.checked.prog.looks [] ∧ ∀ (j : Nat) t, fn.params[j]? = some t → Tryd.pinned.checked.prog.wantsStandIn t = false := by
  obtain rfl : f = 3 := Option.some.inj ((show Tryd.prog.funcNamed "manometer/manometerlaw01.BitsZigs" = some 3 by kernel_rfl).symm.trans hf) |>.symm
  obtain rfl : fn = Tryd.f3 := (Option.some.inj (Tryd.func3.symm.trans hfn)).symm
  refine ⟨by kernel_rfl, fun j t ht => ?_⟩
  rw [Tryd.params3] at ht
  have hm : t = 22 ∨ t = 2 := by simpa using Array.mem_of_getElem? ht
  rcases hm with rfl | rfl
  · exact (show Tryd.prog.wantsStandIn 22 = false by kernel_rfl)
  · exact (show Tryd.prog.wantsStandIn 2 = false by kernel_rfl)

/-- THE TIED CARD. -/
theorem bitsZigs_card : Rows.BitsZigsCardSaid :=
  Claim7.holds_tied_plain_at .later [] _ _ _ _ bitsZigs_said (fun _ h => by cases h) (by kernel_rfl) (fun _ h => by cases h) bitsZigs_row_tie rfl ⟨rfl, rfl⟩ (by kernel_rfl) rfl bitsZigs_plain (by kernel_rfl)
#print axioms bitsZigs_card

theorem bitsTurns_contract (H : Type) (enc : TypeId × Value → H) (W : World) (base : Nat) (args : Array Value) (ds gs : List (DataW H)) (before : List MemPlace)
    (hval : ∀ (j : Nat) t v, Tryd.f4.params[j]? = some t → args[j]? = some v → Value.okWide Tryd.prog W .any base t v)
    (hW : DataW.Whole enc Tryd.prog Tryd.f4.params.toList Rows.bitsTurnsSpec.vars false W args.toList ds gs before) (hL : laidMetH Tryd.prog Rows.bitsTurnsRow.laid W) :
    Calls Tryd.prog 4 args W fun e W' => ∃ v, e = .returned v ∧ Rows.bitsTurnsSpec.post enc Tryd.prog Tryd.f4 false true false false W args v W' := by
  have hW' := hW
  obtain ⟨p, q, hA0, hV, rfl, hfz, hnd⟩ := hW
  have hA : DataW.TrodAll enc Tryd.prog W 0 (fun _ => true) true Tryd.f4.params.toList args.toList ds p := hA0
  rw [Tryd.params4] at hA hval
  obtain ⟨v0, vs0, d0, ds0, p0, q0, hargs, rfl, rfl, h0, r0⟩ := trodAll_cons hA
  obtain ⟨v1, vs1, d1, ds1, p1, q1, rfl, rfl, rfl, h1, r1⟩ := trodAll_cons r0
  obtain ⟨rfl, rfl, rfl⟩ := trodAll_nil r1
  obtain rfl : args = #[v0, v1] := by cases args; simp_all
  obtain ⟨rfl, rfl⟩ := trodVars_none hV
  obtain ⟨z0, rfl, rfl, rfl, w0⟩ := open_int Tryd.underlying22 (hval 0 22 v0 rfl rfl) h0
  obtain ⟨a1, rfl, rfl, rfl, w1⟩ := open_int Tryd.underlying2 (hval 1 2 v1 rfl rfl) h1
  clear hA0 hA
  have b0 := bounds_u64 w0
  obtain ⟨n0, rfl⟩ := Int.eq_ofNat_of_zero_le b0.1
  have b1 := bounds_i64 w1
  refine (turns_walk n0 a1 W (by omega) (by omega) (by omega) (table hL)).mono fun e W' ⟨he, hg⟩ => ?_
  subst he
  exact ⟨_, rfl, law_end laidOut (by kernel_rfl) (by kernel_rfl) Tryd.underlying4 rfl hW' ⟨rfl, rfl, rfl⟩ hg⟩

theorem bitsTurns_met (os : Os) : laidMet Tryd.prog Rows.bitsTurnsRow.laid ((laidWorld os).forCall (fun _ _ => 0) ⟨#[], #[.int .u64 0, .int .i64 0], []⟩).memory :=
  laidMet_of_run' 8 (by kernel_rfl) (by kernel_rfl)
theorem bitsTurns_reads (os : Os) {H : Type} (enc : TypeId × Value → H) : ∃ places, DataW.whole enc Tryd.prog ((laidWorld os).forCall (fun _ _ => 0) ⟨#[], #[.int .u64 0, .int .i64 0], []⟩).memory Tryd.f4.params.toList Rows.bitsTurnsSpec.vars false #[Value.int .u64 0, Value.int .i64 0].toList 8 = some ([.lit (.int .u64 0), .lit (.int .i64 0)], [], places) :=
  ⟨[], by kernel_rfl⟩

set_option maxRecDepth 100000 in
theorem bitsTurns_lifted (os : Os) (started : os.Started) (H : Type) (enc : TypeId × Value → H) (F : Stop.Interp) :
    ReturnsInHanded {} Tryd.checked os 4 .any ((OpenSpec.ofChange Rows.bitsTurnsSpec).preRow enc Tryd.prog Tryd.f4 Rows.bitsTurnsRow.domain false Rows.bitsTurnsRow.laid) (((OpenSpec.ofChange Rows.bitsTurnsSpec).at F).post enc Tryd.prog Tryd.f4 false true false false) := by
  obtain ⟨places, hx⟩ := bitsTurns_reads os enc
  refine returnsInHanded_of_row (C := Tryd.checked) (s := OpenSpec.ofChange Rows.bitsTurnsSpec) ownKn started (by kernel_rfl) Tryd.func4
    (witness_row_at (enc := enc) (C := Tryd.checked) false (laidWorld os) #[.int .u64 0, .int .i64 0] rfl (by kernel_rfl) (by kernel_rfl) (by kernel_rfl)
      (OpenSpec.preRow_of_cond 8 hx (by kernel_rfl) (fun k hk => by cases hk) (by kernel_rfl) (bitsTurns_met os))) ?_
  intro W base args ds gs before hval hW _ _ _ hL _ _
  exact bitsTurns_contract H enc W base args ds gs before hval hW hL

theorem bitsTurns_said : Rows.BitsTurnsSaid :=
  OpenClaim.holds_of_cond 4 Tryd.f4 rfl rfl rfl rfl rfl rfl rfl ⟨rfl, rfl, rfl, rfl, rfl⟩ rfl rfl rfl rfl rfl (by kernel_rfl) Tryd.func4 (by kernel_rfl)
    (of_decide_eq_true (by kernel_rfl)) (by unfold Func.isWrapper; first | (rw [if_pos (by decide +kernel)]; kernel_rfl) | (rw [if_neg (by decide +kernel)]; exact ⟨rfl, rfl⟩))
    (fun os started H enc _ F => by rw [OpenClaim.pre_eq_preRow]; exact bitsTurns_lifted os started H enc F)

theorem bitsTurns_plain (f : FuncId) (fn : Func) (hf : Tryd.pinned.checked.prog.funcNamed "manometer/manometerlaw01.BitsTurns" = some f) (hfn : Tryd.pinned.checked.prog.funcs[f]? = some fn) :
    false = Tryd.pinned.checked.prog.looks [] ∧ ∀ (j : Nat) t, fn.params[j]? = some t → Tryd.pinned.checked.prog.wantsStandIn t = false := by
  obtain rfl : f = 4 := Option.some.inj ((show Tryd.prog.funcNamed "manometer/manometerlaw01.BitsTurns" = some 4 by kernel_rfl).symm.trans hf) |>.symm
  obtain rfl : fn = Tryd.f4 := (Option.some.inj (Tryd.func4.symm.trans hfn)).symm
  refine ⟨by kernel_rfl, fun j t ht => ?_⟩
  rw [Tryd.params4] at ht
  have hm : t = 22 ∨ t = 2 := by simpa using Array.mem_of_getElem? ht
  rcases hm with rfl | rfl
  · exact (show Tryd.prog.wantsStandIn 22 = false by kernel_rfl)
  · exact (show Tryd.prog.wantsStandIn 2 = false by kernel_rfl)

/-- THE TIED CARD. -/
theorem bitsTurns_card : Rows.BitsTurnsCardSaid :=
  Claim7.holds_tied_plain_at .later [] _ _ _ _ bitsTurns_said (fun _ h => by cases h) (by kernel_rfl) (fun _ h => by cases h) bitsTurns_row_tie rfl ⟨rfl, rfl⟩ (by kernel_rfl) rfl bitsTurns_plain (by kernel_rfl)
#print axioms bitsTurns_card
end Go.Proofs.YtogakabfidahbaaDoor
