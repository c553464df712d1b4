/-
  PostingsNames (P10.2): the names and values that any series have, behind whatever operations, are the document's. The condition is the library's two tables': they hold what their initialisers lay, which the card ties to the program's text.
-/
import Derived.Test.YtjgappbomohlcaaGreatDoorK01
import Derived.Test.YtjgappbomohlcaaGreatDoorK05
import Derived.Test.YtjgappbomohlcaaGreatDoorKPqn
import Derived.Test.YtjgappbomohlcaaGreatDoorKPyw
namespace Go.Proofs.YtjgappbomohlcaaGreatDoor
set_option linter.unusedVariables false
set_option linter.unusedSimpArgs false
open Go.ChangeMaps (open_string)
open Go.ChangeShapes Go.WideShapes Go.ChangeAt Go.RowKit
section
set_option maxHeartbeats 6400000
set_option maxRecDepth 100000
theorem two_names {w0 w : World} {xb p : Nat} {T : Nat → Prop} {L M : List Ser} (h : Two w0 w xb p T L M) : Calls Tryz.prog 28 #[.pointer (some ⟨xb, 0, none⟩)] w (TxtR w (namesL L)) := by
  obtain ⟨G, S, v, ys, h1, h2, h3, h4, h5, h6⟩ := h.ex
  refine (inames_any h1).mono fun e w' ⟨A, c, e1, ho, hb⟩ => ⟨A, c, e1, rd_own_t ho, hb⟩
theorem two_values {w0 w : World} {xb p : Nat} {T : Nat → Prop} {L M : List Ser} (h : Two w0 w xb p T L M) (n : ByteArray) (hn : n.size ≤ 1000000) : Calls Tryz.prog 30 #[.pointer (some ⟨xb, 0, none⟩), .string n] w (TxtR w (valuesL L n)) := by
  obtain ⟨G, S, v, ys, h1, h2, h3, h4, h5, h6⟩ := h.ex
  refine (ivalues_any h1 n hn).mono fun e w' ⟨A, c, e1, ho, hb⟩ => ⟨A, c, e1, rd_own_t ho, hb⟩
theorem two_rnames {w0 w : World} {xb p : Nat} {T : Nat → Prop} {L M : List Ser} (h : Two w0 w xb p T L M) : Calls Tryz.prog 29 #[.pointer (some ⟨p, 0, none⟩)] w (TxtR w (namesL M)) := by
  obtain ⟨G, S, v, ys, h1, h2, rfl, h4, h5, h6⟩ := h.ex
  exact rnames_any h2
theorem two_rvalues {w0 w : World} {xb p : Nat} {T : Nat → Prop} {L M : List Ser} (h : Two w0 w xb p T L M) (n : ByteArray) : Calls Tryz.prog 31 #[.pointer (some ⟨p, 0, none⟩), .string n] w (TxtR w (valuesL M n)) := by
  obtain ⟨G, S, v, ys, h1, h2, rfl, h4, h5, h6⟩ := h.ex
  exact rvalues_any h2 n
theorem addL_len (L : List Ser) (n : Nat) (l : List Lb) : (addL L n l).length ≤ L.length + 1 := by unfold addL; split <;> simp
theorem names_len {L : List Ser} (h : Wf L) : (namesL L).length ≤ 1000000 := by
  refine Nat.le_trans (riseT_len _) ?_
  have h1 := flat_le (fun s : Ser => s.2.map (·.1)) 16 L fun s hs => by rw [List.length_map]; exact (right_parts (h.right s hs)).1
  have := h.few; omega
theorem values_len {L : List Ser} (h : Wf L) (n : ByteArray) : (valuesL L n).length ≤ 1000000 := by
  refine Nat.le_trans (riseT_len _) ?_
  have h1 := flat_le (fun s : Ser => (s.2.filter fun x => decide (x.1 = n)).map (·.2)) 16 L fun s hs => by rw [List.length_map]; exact Nat.le_trans (List.length_filter_le _ _) (right_parts (h.right s hs)).1
  have := h.few; omega
theorem pnames_walk (A : Option Addr) (c : Nat) (l : List OpP) (n : ByteArray) (w : World) (hT : Tabs w) (hx : Rd w A (l.flatMap opP)) (ho : ∀ o ∈ l, OpIn w o) (hn : n.size ≤ 9223372036854775807) :
    Calls Tryz.prog 5 #[.slice A l.length c, .string n] w fun e w' => e = .returned (.bool true) ∧ Below w.heap.size w w' := by
  have HT := Lib.hid hT
  have H1 := Lib.hid (live_any10 w hT)
  have hmu := fun (W : World) (hb : Below w.heap.size w W) => much_any A c l W (hx.below hb) fun o ho' => (ho o ho').below hb
  have HX := Lib.hid hx
  have HO := Lib.hid ho
  cases hf : fewOpsB l with
  | false =>
    rw [hf] at hmu
    have HMU := Lib.hid hmu
    clear hT hx ho hmu hf
    go_enter Tryz.func5, Tryz.ntmps5
    go_wp2_with (first
      | (go_at_call 11; refine H1.out.mono ?_; rintro e w1 ⟨rfl, hb1⟩; have HB1 := Lib.hid hb1; clear hb1)
      | (go_at_call 12; refine (HMU.out _ HB1.out).mono ?_; rintro e w2 ⟨rfl, hb2⟩; have HB2 := Lib.hid (HB1.out.trans (hb2.mono HB1.out.size)); clear hb2)
      | fail)
    go_upto_region 2 with fail
    have h9 := live_any10 w2 (HT.out.below HB2.out)
    have H9 := Lib.hid h9; clear h9
    go_wp2_with (first
      | (go_at_call 11; refine H9.out.mono ?_; rintro e w9 ⟨rfl, hb9⟩; have HB9 := Lib.hid (HB2.out.trans (hb9.mono HB2.out.size)); clear hb9)
      | fail)
    go_ret
    exact ⟨rfl, HB9.out⟩
  | true =>
    rw [hf] at hmu
    have HMU := Lib.hid hmu
    by_cases h200 : n.size ≤ 200
    · have g1 : ¬ (200 : Int) < (n.size : Int) := by omega
      have HLD := Lib.hid (fun (W : World) (hb : Below w.heap.size w W) => laid_any A c l W (HT.out.below hb) (hx.below hb) (fun o ho' => (ho o ho').below hb) hf)
      clear hT hx ho hmu hf
      go_enter Tryz.func5, Tryz.ntmps5
      go_wp2_with (first
        | (go_at_call 11; refine H1.out.mono ?_; rintro e w1 ⟨rfl, hb1⟩; have HB1 := Lib.hid hb1; clear hb1)
        | (go_at_call 12; refine (HMU.out _ HB1.out).mono ?_; rintro e w2 ⟨rfl, hb2⟩; have HB2 := Lib.hid (HB1.out.trans (hb2.mono HB1.out.size)); clear hb2)
        | (go_at_call 23; refine (HLD.out _ HB2.out).mono ?_; rintro e w3 ⟨xb, p, T, rfl, h3⟩; have H3 := Lib.hid h3; clear h3)
        | fail)
      have hwf := H3.out.wf
      have HB3 := Lib.hid (HB2.out.trans (H3.out.bel.mono HB2.out.size))
      have hl1 := names_len hwf
      have hl2 := values_len hwf n
      clear hwf
      refine (two_names H3.out).mono ?_
      rintro e w4 ⟨A4, c4, rfl, hr4, hb4⟩
      have HR4 := Lib.hid hr4; have HB4 := Lib.hid hb4
      clear hr4 hb4
      go_wp2_with fail
      have H4 := Lib.hid (H3.out.below HB4.out)
      refine (two_rnames H4.out).mono ?_
      rintro e w5 ⟨A5, c5, rfl, hr5, hb5⟩
      have h5 := words_any A4 A5 c4 c5 (namesL (opsL [] l)) (namesL (opsL [] l)) w5 (HR4.out.below hb5) hr5 hl1 hl1
      rw [decide_eq_true rfl] at h5
      have HW5 := Lib.hid h5; have HB5 := Lib.hid hb5
      clear h5 hr5 hb5
      go_wp2_with fail
      refine HW5.out.mono ?_
      rintro e w6' ⟨rfl, q6, rfl⟩
      have HB6 := Lib.hid (show Below w4.heap.size w4 (w5.drewN q6) from ⟨HB5.out.os, HB5.out.tape, HB5.out.output, HB5.out.size, HB5.out.block⟩)
      clear HB5
      generalize w5.drewN q6 = w6 at HB6 ⊢
      have H6 := Lib.hid (H4.out.below HB6.out)
      go_wp2_with fail
      refine (two_values H6.out n (by omega)).mono ?_
      rintro e w7 ⟨A7, c7, rfl, hr7, hb7⟩
      have HR7 := Lib.hid hr7; have HB7 := Lib.hid hb7
      clear hr7 hb7
      go_wp2_with fail
      have H7 := Lib.hid (H6.out.below HB7.out)
      refine (two_rvalues H7.out n).mono ?_
      rintro e w8 ⟨A8, c8, rfl, hr8, hb8⟩
      have h8 := words_any A7 A8 c7 c8 (valuesL (opsL [] l) n) (valuesL (opsL [] l) n) w8 (HR7.out.below hb8) hr8 hl2 hl2
      rw [decide_eq_true rfl] at h8
      have HW8 := Lib.hid h8; have HB8 := Lib.hid hb8
      clear h8 hr8 hb8
      go_wp2_with fail
      refine HW8.out.mono ?_
      rintro e w9' ⟨rfl, q9, rfl⟩
      have HB9 := Lib.hid (show Below w7.heap.size w7 (w8.drewN q9) from ⟨HB8.out.os, HB8.out.tape, HB8.out.output, HB8.out.size, HB8.out.block⟩)
      generalize w8.drewN q9 = w9 at HB9 ⊢
      go_wp2_with fail
      go_ret
      have b1 := HB3.out.trans (HB4.out.mono HB3.out.size)
      have b2 := b1.trans (HB6.out.mono b1.size)
      have b3 := b2.trans (HB7.out.mono b2.size)
      exact ⟨rfl, b3.trans (HB9.out.mono b3.size)⟩
    · have g1 : (200 : Int) < (n.size : Int) := by omega
      clear hT hx ho hmu hf
      go_enter Tryz.func5, Tryz.ntmps5
      go_wp2_with (first
        | (go_at_call 11; refine H1.out.mono ?_; rintro e w1 ⟨rfl, hb1⟩; have HB1 := Lib.hid hb1; clear hb1)
        | (go_at_call 12; refine (HMU.out _ HB1.out).mono ?_; rintro e w2 ⟨rfl, hb2⟩; have HB2 := Lib.hid (HB1.out.trans (hb2.mono HB1.out.size)); clear hb2)
        | fail)
      go_upto_region 2 with fail
      have h9 := live_any10 w2 (HT.out.below HB2.out)
      have H9 := Lib.hid h9; clear h9
      go_wp2_with (first
        | (go_at_call 11; refine H9.out.mono ?_; rintro e w9 ⟨rfl, hb9⟩; have HB9 := Lib.hid (HB2.out.trans (hb9.mono HB2.out.size)); clear hb9)
        | fail)
      go_ret
      exact ⟨rfl, HB9.out⟩
end


set_option maxRecDepth 100000 in
theorem postingsNames_contract (H : Type) (enc : TypeId × Value → H) (W : World) (base : Nat) (args : Array Value) (ds gs : List (DataW H)) (before : List MemPlace)
    (hval : ∀ (j : Nat) t v, Tryz.f5.params[j]? = some t → args[j]? = some v → Value.okWide Tryz.prog W .any base t v)
    (hW : DataW.Whole enc Tryz.prog Tryz.f5.params.toList Rows.postingsNamesSpec.vars false W args.toList ds gs before) (hL : laidMetH Tryz.prog Rows.postingsNamesRow.laid W) :
    Calls Tryz.prog 5 args W fun e W' => ∃ v, e = .returned v ∧ Rows.postingsNamesSpec.post enc Tryz.prog Tryz.f5 false true false false W args v W' := by
  have hW' := hW
  obtain ⟨p, q, hA0, hV, rfl, hfz, hnd⟩ := hW
  have hA : DataW.TrodAll enc Tryz.prog W 0 (fun _ => true) true Tryz.f5.params.toList args.toList ds p := hA0
  rw [Tryz.params5] at hA hval
  obtain ⟨v0, vs0, d0, ds0, p0, q0, hargs, rfl, rfl, h0, r0⟩ := trodAll_cons hA
  obtain ⟨v1, vs1, d1, ds1, p1, q1, rfl, rfl, rfl, h1, r1⟩ := trodAll_cons r0
  obtain ⟨rfl, rfl, rfl⟩ := trodAll_nil r1
  obtain rfl : args = #[v0, v1] := by cases args; simp_all
  obtain ⟨rfl, rfl⟩ := trodVars_none hV
  obtain ⟨A0, c0, o0, rfl, hm0, hx0, hs0⟩ := open_opsP (hval 0 22 v0 rfl rfl) h0
  obtain ⟨s1, rfl, rfl, rfl, ws1⟩ := open_string Tryz.underlying9 (hval 1 9 v1 rfl rfl) h1
  clear hA0 hA
  unfold maxLen at hm0
  unfold maxLen at ws1
  refine (pnames_walk A0 c0 o0 s1 W (tabs hL) hx0 hs0 (by omega)).mono fun e W' ⟨he, hg⟩ => ?_
  subst he
  exact ⟨_, rfl, law_end laidOut (by kernel_rfl) (by kernel_rfl) Tryz.underlying4 rfl hW' ⟨rfl, rfl, rfl⟩ hg⟩

theorem postingsNames_met (os : Os) : laidMet Tryz.prog Rows.postingsNamesRow.laid ((laidWorld os).forCall (fun _ _ => 0) ⟨#[], #[.slice none 0 0, .string ⟨#[]⟩], []⟩).memory :=
  laid_met os _
theorem postingsNames_reads (os : Os) {H : Type} (enc : TypeId × Value → H) : ∃ places, DataW.whole enc Tryz.prog ((laidWorld os).forCall (fun _ _ => 0) ⟨#[], #[.slice none 0 0, .string ⟨#[]⟩], []⟩).memory Tryz.f5.params.toList Rows.postingsNamesSpec.vars false (#[.slice none 0 0, .string ⟨#[]⟩] : Array Value).toList 8 = some ([.nil, .lit (.string [])], [], places) :=
  ⟨[], by kernel_rfl⟩

set_option maxRecDepth 100000 in
theorem postingsNames_lifted (os : Os) (started : os.Started) (H : Type) (enc : TypeId × Value → H) (F : Stop.Interp) :
    ReturnsInHanded {} Tryz.checked os 5 .any ((OpenSpec.ofChange Rows.postingsNamesSpec).preRow enc Tryz.prog Tryz.f5 Rows.postingsNamesRow.domain false Rows.postingsNamesRow.laid) (((OpenSpec.ofChange Rows.postingsNamesSpec).at F).post enc Tryz.prog Tryz.f5 false true false false) := by
  obtain ⟨places, hx⟩ := postingsNames_reads os enc
  refine returnsInHanded_of_row (C := Tryz.checked) (s := OpenSpec.ofChange Rows.postingsNamesSpec) ownKn started (by kernel_rfl) Tryz.func5
    (witness_row_at (enc := enc) (C := Tryz.checked) false (laidWorld os) #[.slice none 0 0, .string ⟨#[]⟩] rfl (by kernel_rfl) (by kernel_rfl) (by kernel_rfl)
      (OpenSpec.preRow_of_cond 8 hx (by kernel_rfl) (fun k hk => by cases hk) (by kernel_rfl) (postingsNames_met os))) ?_
  intro W base args ds gs before hval hW _ _ _ hL _ _
  exact postingsNames_contract H enc W base args ds gs before hval hW hL

theorem postingsNames_said : Rows.PostingsNamesSaid :=
  OpenClaim.holds_of_cond 5 Tryz.f5 rfl rfl rfl rfl rfl rfl rfl ⟨rfl, rfl, rfl, rfl, rfl⟩ rfl rfl rfl rfl rfl (by kernel_rfl) Tryz.func5 (by kernel_rfl)
    (of_decide_eq_true (by kernel_rfl)) (by unfold Func.isWrapper; first | (rw [if_pos (by decide +kernel)]; kernel_rfl) | (rw [if_neg (by decide +kernel)]; exact ⟨rfl, rfl⟩))
    (fun os started H enc _ F => by rw [OpenClaim.pre_eq_preRow]; exact postingsNames_lifted os started H enc F)

theorem postingsNames_plain (f : FuncId) (fn : Func) (hf : Tryz.pinned.checked.prog.funcNamed "manometer/manometerlaw10.PostingsNames" = some f) (hfn : Tryz.pinned.checked.prog.funcs[f]? = some fn) :
    true = Tryz.pinned.checked.prog.looks [] ∧ ∀ (j : Nat) t, fn.params[j]? = some t → Tryz.pinned.checked.prog.wantsStandIn t = false := by
  obtain rfl : f = 5 := Option.some.inj ((show Tryz.prog.funcNamed "manometer/manometerlaw10.PostingsNames" = some 5 by kernel_rfl).symm.trans hf) |>.symm
  obtain rfl : fn = Tryz.f5 := (Option.some.inj (Tryz.func5.symm.trans hfn)).symm
  refine ⟨by kernel_rfl, fun j t ht => ?_⟩
  rw [Tryz.params5] at ht
  have hm : t = 22 ∨ t = 9 := by simpa using Array.mem_of_getElem? ht
  rcases hm with rfl | rfl
  · exact (show Tryz.prog.wantsStandIn 22 = false by kernel_rfl)
  · exact (show Tryz.prog.wantsStandIn 9 = false by kernel_rfl)

theorem postingsNames_card : Rows.PostingsNamesCardSaid :=
  Claim7.holds_tied_plain_at .later [] _ _ _ _ postingsNames_said (fun _ h => by cases h) (by kernel_rfl) (fun _ h => by cases h) postingsNames_row_tie rfl ⟨rfl, rfl⟩ (by kernel_rfl) rfl postingsNames_plain (by kernel_rfl)
#print axioms postingsNames_card

end Go.Proofs.YtjgappbomohlcaaGreatDoor
