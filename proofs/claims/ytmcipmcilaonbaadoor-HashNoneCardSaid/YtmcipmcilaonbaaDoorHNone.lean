/-
  HashNone (P3.1): a Hash that no call made, nil or empty, answers ErrMade and nothing, whatever is written. The condition is the table's: it holds what its initialiser lays, which the card ties to the program's text.
-/
import Derived.Test.YtmcipmcilaonbaaDoorHt
namespace Go.Proofs.YtmcipmcilaonbaaDoor
set_option linter.unusedVariables false
set_option linter.unusedSimpArgs false
open Go.ChangeShapes Go.WideShapes Go.ChangeAt Go.RowKit

section
set_option maxHeartbeats 1600000
set_option maxRecDepth 100000
theorem write_nil (w : World) (S : Value) : Calls Tryd.prog 20 #[.pointer none, S] w fun e w' => e = .returned (.int .i64 2) ∧ w = w' := by
  go_enter Tryd.func20, Tryd.ntmps20
  go_wp2
  go_ret
  exact ⟨rfl, rfl⟩
theorem write_unmade (w : World) (p : Nat) (S : Value) (h : w.cell? ⟨p, 0, none⟩ = some (.bool false)) : Calls Tryd.prog 20 #[.pointer (some ⟨p, 0, none⟩), S] w fun e w' => e = .returned (.int .i64 2) ∧ w = w' := by
  go_enter Tryd.func20, Tryd.ntmps20
  go_wp2
  go_ret
  exact ⟨rfl, rfl⟩
theorem clone_nil (w : World) : Calls Tryd.prog 19 #[.pointer none] w fun e w' => e = .returned (.pointer none) ∧ w = w' := by
  go_enter Tryd.func19, Tryd.ntmps19
  go_wp2
  go_ret
  exact ⟨rfl, rfl⟩
theorem clone_unmade (w : World) (p : Nat) (h : w.cell? ⟨p, 0, none⟩ = some (.bool false)) : Calls Tryd.prog 19 #[.pointer (some ⟨p, 0, none⟩)] w fun e w' => e = .returned (.pointer none) ∧ w = w' := by
  go_enter Tryd.func19, Tryd.ntmps19
  go_wp2
  go_ret
  exact ⟨rfl, rfl⟩
theorem sum_nil (w : World) : Calls Tryd.prog 21 #[.pointer none] w fun e w' => e = .returned (.agg (Array.replicate 32 (.int .u8 0))) ∧ Below w.heap.size w w' := by
  go_enter Tryd.func21, Tryd.ntmps21
  go_wp2_with (first
    | (refine wpList_store_agg (o := ⟨none, _, _, _, _, _⟩) ?_ 25 (.tmp 2) (.tmp 13) ?_ w.heap.size 0 (List.replicate 32 (.int .u8 0)) ?_ ?_ 25 _ (heap_alloc_new w _) ?_ ?_ ?_ ?_; rfl; rfl; rfl; rfl; kernel_rfl; decide; (intro v hv; rw [List.eq_of_mem_replicate hv]; rfl); intro w2 hg2 hm2 hs2)
    | fail)
  have hg : w2.heap[w.heap.size]? = some (.cells (Array.replicate 32 (.int .u8 0)) 25 (0, 0)) := by rw [hg2]; rfl
  have HG := Lib.hid hg; clear hg hg2 hs2
  exact bodyPost_cell rfl w.heap.size 25 _ rfl HG.out (by kernel_rfl) (by kernel_rfl) rfl ⟨rfl, ((Below.refl _ w).alloc (Nat.le_refl _) _).trans (hm2.belowB (by simp) (fun k hk e => by omega))⟩
theorem sum_unmade (w : World) (p : Nat) (h : w.cell? ⟨p, 0, none⟩ = some (.bool false)) (hp : p < w.heap.size) : Calls Tryd.prog 21 #[.pointer (some ⟨p, 0, none⟩)] w fun e w' => e = .returned (.agg (Array.replicate 32 (.int .u8 0))) ∧ Below w.heap.size w w' := by
  go_enter Tryd.func21, Tryd.ntmps21
  go_wp2_with (first
    | (refine wpList_store_agg (o := ⟨none, _, _, _, _, _⟩) ?_ 25 (.tmp 2) (.tmp 13) ?_ w.heap.size 0 (List.replicate 32 (.int .u8 0)) ?_ ?_ 25 _ (heap_alloc_new w _) ?_ ?_ ?_ ?_; rfl; rfl; rfl; rfl; kernel_rfl; decide; (intro v hv; rw [List.eq_of_mem_replicate hv]; rfl); intro w2 hg2 hm2 hs2)
    | fail)
  have hg : w2.heap[w.heap.size]? = some (.cells (Array.replicate 32 (.int .u8 0)) 25 (0, 0)) := by rw [hg2]; rfl
  have HG := Lib.hid hg; clear hg hg2 hs2
  exact bodyPost_cell rfl w.heap.size 25 _ rfl HG.out (by kernel_rfl) (by kernel_rfl) rfl ⟨rfl, ((Below.refl _ w).alloc (Nat.le_refl _) _).trans (hm2.belowB (by simp) (fun k hk e => by omega))⟩
theorem none_walk (A : Option Addr) (c : Nat) (xs : List UInt8) (w : World) (ht : AddsMet w) :
    Calls Tryd.prog 11 #[.slice A xs.length c] w fun e w' => e = .returned (.bool true) ∧ Below w.heap.size w w' := by
  have HT := Lib.hid ht; clear ht
  go_enter Tryd.func11, Tryd.ntmps11
  go_wp2
  have hb0 : Below w.heap.size w ((w.alloc (.cells Tryd.zeroCells57 57)).alloc (.cells #[.pointer none, .pointer (some ⟨w.heap.size, 0, none⟩)] 33)) := ((Below.refl _ w).alloc (Nat.le_refl _) _).alloc (by simp) _
  have hz0 : ((w.alloc (.cells Tryd.zeroCells57 57)).alloc (.cells #[.pointer none, .pointer (some ⟨w.heap.size, 0, none⟩)] 33)).heap[w.heap.size]? = some (.cells Tryd.zeroCells57 57 (0, 0)) := heap_alloc2_old w _ _
  have hr0 : ((w.alloc (.cells Tryd.zeroCells57 57)).alloc (.cells #[.pointer none, .pointer (some ⟨w.heap.size, 0, none⟩)] 33)).heap[w.heap.size + 1]? = some (.cells #[.pointer none, .pointer (some ⟨w.heap.size, 0, none⟩)] 33 (0, 0)) := heap_alloc2_new w _ _
  have ht0 := HT.out.below hb0
  have HT0 := Lib.hid ht0; clear ht0
  go_loopw [9] (fun i wr => ∃ k : Nat, k ≤ 2 ∧ i = .int .i64 k ∧ wr.heap[w.heap.size]? = some (.cells Tryd.zeroCells57 57 (0, 0)) ∧ wr.heap[w.heap.size + 1]? = some (.cells #[.pointer none, .pointer (some ⟨w.heap.size, 0, none⟩)] 33 (0, 0)) ∧ Below w.heap.size w wr ∧ AddsMet wr) (fun i _ => 2 - (intOf i).toNat)
  case atStart => exact ⟨0, by omega, rfl, hz0, hr0, hb0, HT0.out⟩
  case round =>
    clear hz0 hr0 hb0 HT0
    obtain ⟨k, hk, rfl, hz, hr, hb, ht⟩ := hrel
    have c0 : wr.cell? ⟨w.heap.size, 0, none⟩ = some (.bool false) := by rw [cell_blk hz]; kernel_rfl
    have hlt0 := blk_lt hz
    have hlt1 := blk_lt hr
    have r0 := cell_blk hr 0
    have r1 := cell_blk hr 1
    simp only [List.getElem?_toArray, List.getElem?_cons_zero, List.getElem?_cons_succ] at r0 r1
    have HZ := Lib.hid hz; clear hz
    have HR := Lib.hid hr; clear hr
    have HT1 := Lib.hid ht; clear ht
    have heq : ∀ u : World, (Op.equalIn 10000 25 (.agg (Array.replicate 32 (.int .u8 0))) (.agg #[.int .u8 0, .int .u8 0, .int .u8 0, .int .u8 0, .int .u8 0, .int .u8 0, .int .u8 0, .int .u8 0, .int .u8 0, .int .u8 0, .int .u8 0, .int .u8 0, .int .u8 0, .int .u8 0, .int .u8 0, .int .u8 0, .int .u8 0, .int .u8 0, .int .u8 0, .int .u8 0, .int .u8 0, .int .u8 0, .int .u8 0, .int .u8 0, .int .u8 0, .int .u8 0, .int .u8 0, .int .u8 0, .int .u8 0, .int .u8 0, .int .u8 0, .int .u8 0])).run Tryd.prog u = .ok true u := fun u => by
      have h := eq_bytes u 25 32 (List.replicate 32 0) (List.replicate 32 0) Tryd.underlying25 (by decide) (by decide)
      rw [decide_eq_true rfl] at h
      exact h
    have hgd : Tryd.prog.eqGuardType Tryd.prog.depth 25 = false := by kernel_rfl
    have hk3 : k = 0 ∨ k = 1 ∨ k = 2 := by omega
    rcases hk3 with rfl | rfl | rfl
    · go_wp2_with fail
      refine (write_nil _ _).mono ?_
      rintro e w' ⟨rfl, rfl⟩
      go_wp2_with fail
      refine (sum_nil _).mono ?_
      rintro e w2 ⟨rfl, hb2⟩
      go_wp2_with fail
      refine (len_nil _).mono ?_
      rintro e w' ⟨rfl, rfl⟩
      go_wp2_with fail
      refine (clone_nil _).mono ?_
      rintro e w' ⟨rfl, rfl⟩
      have hb3 := ((Below.refl _ wr).alloc (Nat.le_refl _) (.cells #[.slice A xs.length c] 28)).trans (hb2.mono (by simp))
      have HB2 := Lib.hid hb3; clear hb3 hb2
      clear heq hgd
      go_wp2
      go_roundw
      case rel => exact ⟨1, by omega, by first | rfl | go_num, (HB2.out.block _ hlt0).trans HZ.out, (HB2.out.block _ hlt1).trans HR.out, hb.trans (HB2.out.mono hb.size), HT1.out.below HB2.out⟩
      case measure => simp [intOf]
    · have c0' : (wr.alloc (.cells #[.slice A xs.length c] 28)).cell? ⟨w.heap.size, 0, none⟩ = some (.bool false) := by
        rw [World.cell?_of_block (a := ⟨w.heap.size, 0, none⟩) (w := wr) (heap_alloc_old wr _ hlt0)]; exact c0
      go_wp2_with fail
      refine (write_unmade _ _ _ c0').mono ?_
      rintro e w' ⟨rfl, rfl⟩
      go_wp2_with fail
      refine (sum_unmade _ _ c0' (by simp; omega)).mono ?_
      rintro e w2 ⟨rfl, hb2⟩
      have hb3 := ((Below.refl _ wr).alloc (Nat.le_refl _) (.cells #[.slice A xs.length c] 28)).trans (hb2.mono (by simp))
      have c02 : w2.cell? ⟨w.heap.size, 0, none⟩ = some (.bool false) := by
        rw [World.cell?_of_block (a := ⟨w.heap.size, 0, none⟩) (w := wr) (hb3.block _ hlt0)]; exact c0
      have HB2 := Lib.hid hb3; clear hb3 hb2
      go_wp2_with fail
      refine (len_unmade _ _ c02).mono ?_
      rintro e w' ⟨rfl, rfl⟩
      go_wp2_with fail
      refine (clone_unmade _ _ c02).mono ?_
      rintro e w' ⟨rfl, rfl⟩
      clear heq hgd
      go_wp2
      go_roundw
      case rel => exact ⟨2, by omega, by first | rfl | go_num, (HB2.out.block _ hlt0).trans HZ.out, (HB2.out.block _ hlt1).trans HR.out, hb.trans (HB2.out.mono hb.size), HT1.out.below HB2.out⟩
      case measure => simp [intOf]
    · go_wp2_with fail
      refine (live_any wr HT1.out).mono ?_
      rintro e w2 ⟨rfl, hb2⟩
      go_wp2
      go_ret
      exact ⟨rfl, hb.trans (hb2.mono hb.size)⟩

theorem hashNone_contract (H : Type) (enc : TypeId × Value → H) (W : World) (base : Nat) (args : Array Value) (ds gs : List (DataW H)) (before : List MemPlace)
    (hval : ∀ (j : Nat) t v, Tryd.f11.params[j]? = some t → args[j]? = some v → Value.okWide Tryd.prog W .any base t v)
    (hW : DataW.Whole enc Tryd.prog Tryd.f11.params.toList Rows.hashNoneSpec.vars false W args.toList ds gs before) (hL : laidMetH Tryd.prog Rows.hashNoneRow.laid W) :
    Calls Tryd.prog 11 args W fun e W' => ∃ v, e = .returned v ∧ Rows.hashNoneSpec.post enc Tryd.prog Tryd.f11 false true false false W args v W' := by
  have hW' := hW
  obtain ⟨p, q, hA0, hV, rfl, hfz, hnd⟩ := hW
  have hA : DataW.TrodAll enc Tryd.prog W 0 (fun _ => true) true Tryd.f11.params.toList args.toList ds p := hA0
  rw [Tryd.params11] at hA hval
  obtain ⟨v0, vs0, d0, ds0, p0, q0, hargs, rfl, rfl, h0, r0⟩ := trodAll_cons hA
  obtain ⟨rfl, rfl, rfl⟩ := trodAll_nil r0
  obtain rfl : args = #[v0] := by cases args; simp_all
  obtain ⟨rfl, rfl⟩ := trodVars_none hV
  obtain ⟨A0, c0, xs0, rfl, hm0, hx0⟩ := open_bytes Tryd.underlying28 Tryd.underlying5 (by kernel_rfl) (hval 0 28 v0 rfl rfl) h0
  clear hA0 hA
  unfold maxLen at hm0
  refine (none_walk A0 c0 xs0 W (table hL)).mono fun e W' ⟨he, hg⟩ => ?_
  subst he
  exact ⟨_, rfl, law_end laidOut (by kernel_rfl) (by kernel_rfl) Tryd.underlying4 rfl hW' ⟨rfl, rfl, rfl⟩ hg⟩

theorem hashNone_met (os : Os) : laidMet Tryd.prog Rows.hashNoneRow.laid ((laidWorld os).forCall (fun _ _ => 0) ⟨#[], #[.slice none 0 0], []⟩).memory :=
  laidMet_of_run' 8 (by kernel_rfl) (by kernel_rfl)
theorem hashNone_reads (os : Os) {H : Type} (enc : TypeId × Value → H) : ∃ places, DataW.whole enc Tryd.prog ((laidWorld os).forCall (fun _ _ => 0) ⟨#[], #[.slice none 0 0], []⟩).memory Tryd.f11.params.toList Rows.hashNoneSpec.vars false (#[.slice none 0 0] : Array Value).toList 8 = some ([.nil], [], places) :=
  ⟨[], by kernel_rfl⟩

set_option maxRecDepth 100000 in
theorem hashNone_lifted (os : Os) (started : os.Started) (H : Type) (enc : TypeId × Value → H) (F : Stop.Interp) :
    ReturnsInHanded {} Tryd.checked os 11 .any ((OpenSpec.ofChange Rows.hashNoneSpec).preRow enc Tryd.prog Tryd.f11 Rows.hashNoneRow.domain false Rows.hashNoneRow.laid) (((OpenSpec.ofChange Rows.hashNoneSpec).at F).post enc Tryd.prog Tryd.f11 false true false false) := by
  obtain ⟨places, hx⟩ := hashNone_reads os enc
  refine returnsInHanded_of_row (C := Tryd.checked) (s := OpenSpec.ofChange Rows.hashNoneSpec) ownKn started (by kernel_rfl) Tryd.func11
    (witness_row_at (enc := enc) (C := Tryd.checked) false (laidWorld os) #[.slice none 0 0] rfl (by kernel_rfl) (by kernel_rfl) (by kernel_rfl)
      (OpenSpec.preRow_of_cond 8 hx (by kernel_rfl) (fun k hk => by cases hk) (by kernel_rfl) (hashNone_met os))) ?_
  intro W base args ds gs before hval hW _ _ _ hL _ _
  exact hashNone_contract H enc W base args ds gs before hval hW hL

theorem hashNone_said : Rows.HashNoneSaid :=
  OpenClaim.holds_of_cond 11 Tryd.f11 rfl rfl rfl rfl rfl rfl rfl ⟨rfl, rfl, rfl, rfl, rfl⟩ rfl rfl rfl rfl rfl (by kernel_rfl) Tryd.func11 (by kernel_rfl)
    (of_decide_eq_true (by kernel_rfl)) (by unfold Func.isWrapper; first | (rw [if_pos (by decide +kernel)]; kernel_rfl) | (rw [if_neg (by decide +kernel)]; exact ⟨rfl, rfl⟩))
    (fun os started H enc _ F => by rw [OpenClaim.pre_eq_preRow]; exact hashNone_lifted os started H enc F)

theorem hashNone_plain (f : FuncId) (fn : Func) (hf : Tryd.pinned.checked.prog.funcNamed "manometer/manometerlaw03.HashNone" = some f) (hfn : Tryd.pinned.checked.prog.funcs[f]? = some fn) :
    false = Tryd.pinned.checked.prog.looks [] ∧ ∀ (j : Nat) t, fn.params[j]? = some t → Tryd.pinned.checked.prog.wantsStandIn t = false := by
  obtain rfl : f = 11 := Option.some.inj ((show Tryd.prog.funcNamed "manometer/manometerlaw03.HashNone" = some 11 by kernel_rfl).symm.trans hf) |>.symm
  obtain rfl : fn = Tryd.f11 := (Option.some.inj (Tryd.func11.symm.trans hfn)).symm
  refine ⟨by kernel_rfl, fun j t ht => ?_⟩
  rw [Tryd.params11] at ht
  have hm : t = 28 := by simpa using Array.mem_of_getElem? ht
  rcases hm with rfl
  · exact (show Tryd.prog.wantsStandIn 28 = false by kernel_rfl)

theorem hashNone_card : Rows.HashNoneCardSaid :=
  Claim7.holds_tied_plain_at .later [] _ _ _ _ hashNone_said (fun _ h => by cases h) (by kernel_rfl) (fun _ h => by cases h) hashNone_row_tie rfl ⟨rfl, rfl⟩ (by kernel_rfl) rfl hashNone_plain (by kernel_rfl)
#print axioms hashNone_card
end
end Go.Proofs.YtmcipmcilaonbaaDoor
