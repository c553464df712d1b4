/-
  BitsWrites (P1.1): for every row of numbers and widths, and every clones: each error, how many bits there are, and their bytes, are the plain answers'. No condition.
-/
import Derived.Test.YtogakabfidahbaaBack
import Derived.Test.YtogakabfidahbaaWs
namespace Go.Proofs.Ytogakabfidahbaa
set_option linter.unusedVariables false
set_option linter.unusedSimpArgs false
open Go.ChangeShapes Go.WideShapes Go.ChangeAt Go.RowKit

/-- In the loop: slot 5 is a Writer of the bits R, slot 6 the row R. -/
def Wk (B : Nat) (W0 wr : World) (pv u : Value) (R : List Bool) : Prop :=
  ∃ p v, pv = .pointer (some ⟨p, 0, none⟩) ∧ WisB B wr p v R ∧ wr.ownsRow B 4 1 u R.length (R.map Value.bool) ∧ Below B W0 wr

/-- Behind a clone, and a bit that is put to the elder Writer: the younger one is as it was. -/
theorem wk_clone {B : Nat} {W0 wr w1 w2 : World} {p p' : Nat} {v v' u : Value} {R R' : List Bool} (hB : B = W0.heap.size) (hw : WisB B wr p v R) (hu : wr.ownsRow B 4 1 u R.length (R.map Value.bool)) (hb : Below B W0 wr)
    (h1 : Wis w1 p' v' R) (h2 : wr.heap.size ≤ p') (h3 : ∀ i, v'.ownBlock = some i → wr.heap.size ≤ i) (h4 : Below wr.heap.size wr w1) (hput : Put1 w1 w2 p v R') :
    WisB B w2 p' v' R ∧ w2.ownsRow B 4 1 u R.length (R.map Value.bool) ∧ Below B W0 w2 := by
  have hsz := hb.size
  have hwr := hw.1.below h4
  have hpl := blk_lt hw.1.1
  obtain ⟨v1, _, hm, _⟩ := hput
  have hvl : ∀ i, v.ownBlock = some i → i < wr.heap.size := fun i hi => (hw.1.2.lt i hi).2
  refine ⟨⟨⟨?_, ?_⟩, by omega, fun i hi => by have := h3 i hi; omega⟩, ?_, ?_⟩
  · rw [hm.block p' (blk_lt h1.1) (fun h => h.elim (fun e => by omega) (fun e => by have := hvl p' e; omega))]; exact h1.1
  · refine own_moved h1.2 fun g hg => hm.block g (h1.2.lt g hg).2 ?_
    have := h3 g hg
    rintro (h | h)
    · omega
    · have := hvl g h; omega
  · refine own_moved hu fun g hg => ?_
    have hlt := (hu.lt g hg).2
    have hne : ¬ (g = p ∨ v.ownBlock = some g) := by
      rintro (h | h)
      · subst h; exact own_blk hu hw.1.1 (by decide) hg
      · exact own_own hu hw.1.2 (by decide) hg h
    rw [hm.block g (Nat.lt_of_lt_of_le hlt h4.size) hne, h4.block g hlt]
  · have hb1 := hb.trans (h4.mono (by omega))
    refine hb1.trans (hm.belowB (by have := h4.size; omega) fun k hk hs => ?_)
    rcases hs with hs | hs
    · have := hw.2.1; omega
    · have := hw.2.2 k hs; omega

theorem wk_put {B : Nat} {W0 wq w' : World} {p bo : Nat} {v u : Value} {R R' : List Bool} {cs : Array Value} (hB : B = W0.heap.size) (hw : WisB B wq p v R) (hu : wq.ownsRow B 4 1 u R.length (R.map Value.bool)) (hb : Below B W0 wq)
    (kb : wq.heap[bo]? = some (.cells cs 30 (0, 0))) (hput : Put1 wq w' p v R') :
    ∃ v', WisB B w' p v' R' ∧ w'.ownsRow B 4 1 u R.length (R.map Value.bool) ∧ Below B W0 w' ∧ w'.heap[bo]? = some (.cells cs 30 (0, 0)) := by
  have hsz := hb.size
  obtain ⟨v', hv', hbw⟩ := hput.above hw (by omega)
  obtain ⟨v1, h1, h2, h3⟩ := hput
  refine ⟨v', hv', ?_, hb.trans hbw, ?_⟩
  · refine own_moved hu fun g hg => ?_
    have hlt := (hu.lt g hg).2
    have hne : ¬ (g = p ∨ v.ownBlock = some g) := by
      rintro (h | h)
      · subst h; exact own_blk hu hw.1.1 (by decide) hg
      · exact own_own hu hw.1.2 (by decide) hg h
    rw [h2.block g hlt hne]
  · have hne : ¬ (bo = p ∨ v.ownBlock = some bo) := by
      rintro (h | h)
      · subst h
        have h5 := kb.symm.trans hw.1.1
        simp at h5
      · exact own_blk hw.1.2 kb (by decide) h
    rw [h2.block bo (blk_lt kb) hne]
    exact kb

theorem wk_rput {B : Nat} {W0 w5 w6 : World} {p : Nat} {v u : Value} {R R' : List Bool} (hB : B = W0.heap.size) (hw : WisB B w5 p v R') (hu : w5.ownsRow B 4 1 u R.length (R.map Value.bool)) (hb : Below B W0 w5)
    (hm : Mv (fun i => u.ownBlock = some i) w5 w6) : WisB B w6 p v R' ∧ Below B W0 w6 := by
  have hsz := hb.size
  refine ⟨⟨⟨?_, ?_⟩, hw.2⟩, ?_⟩
  · rw [hm.block p (blk_lt hw.1.1) (fun h => own_blk hu hw.1.1 (by decide) h)]; exact hw.1.1
  · exact own_moved hw.1.2 fun g hg => hm.block g (hw.1.2.lt g hg).2 (fun h => own_own hu hw.1.2 (by decide) h hg)
  · exact hb.trans (hm.belowB (by omega) fun k hk hs => by have := (hu.lt k hs).1; omega)

section
set_option maxHeartbeats 1600000
set_option maxRecDepth 100000
theorem writes_walk (A C : Option Addr) (ca cc : Nat) (l : List (Nat × Int)) (cl : List Bool) (w : World) (hl : l.length ≤ 9223372036854775807) (hcl : cl.length ≤ 9223372036854775807) (hx : OpsRd w A l) (hok : OpsOk l) (hcx : Rd w C (cl.map Value.bool)) :
    Calls Try.prog 3 #[.slice A l.length ca, .slice C cl.length cc] w fun e w' => e = .returned (.bool true) ∧ Below w.heap.size w w' := by
  go_enter Try.func3, Try.ntmps3
  go_wp2_with fail
  refine (new_any _).mono ?_
  rintro e w1 ⟨rfl, hw1, hb1⟩
  go_wp2_with fail
  refine (live_any _).mono ?_
  rintro e w2 ⟨rfl, hb2⟩
  have hw2 : WisB w.heap.size w2 w.heap.size (.slice none 0 0) [] := ⟨hw1.below hb2, Nat.le_refl _, fun i h => by cases h⟩
  have hb2 := hb1.trans (hb2.mono hb1.size)
  clear hw1 hb1
  by_cases hbig : (l.length : Int) ≤ 200 ∧ (cl.length : Int) ≤ 300
  · obtain ⟨hb200, hb300⟩ := hbig
    go_wp2_with fail
    refine (few_any _ _ _ _).mono ?_
    rintro e w3 ⟨rfl, rfl⟩
    rw [decide_eq_true hb200]
    go_wp2_with fail
    generalize hW : w2.alloc (.cells #[] 4) = w3
    have hwk : Wk w.heap.size w w3 (.pointer (some ⟨w.heap.size, 0, none⟩)) (.slice (some ⟨w2.heap.size, 0, none⟩) 0 0) [] := by
      refine ⟨_, _, rfl, ⟨hw2.1.below (by rw [← hW]; exact (Below.refl _ _).alloc (Nat.le_refl _) _), hw2.2⟩, ?_, by rw [← hW]; exact hb2.alloc hb2.size _⟩
      rw [← hW]
      exact World.ownsRow_made w2 #[] 0 hb2.size (by decide) rfl
    clear hW hw2 hb2
    go_loopw [5, 6, 32] (fun pv u i wr => ∃ (k : Nat) (R : List Bool), k ≤ l.length ∧ R.length ≤ 64 * k ∧ i = .int .i64 k ∧ Wk w.heap.size w wr pv u R) (fun _ _ i _ => l.length - (intOf i).toNat)
    case atStart => exact ⟨0, [], by omega, by simp, rfl, hwk⟩
    case round =>
      obtain ⟨k, R, hk, hRk, rfl, p, v, rfl, hw, hu, hb⟩ := hrel
      by_cases hlt : k < l.length
      · obtain ⟨b, off, rfl, c0, c1⟩ := (hx.below hb) k hlt
        have hokk := hok l[k] (List.getElem_mem hlt)
        have hR := show R.length ≤ 12800 by omega
        obtain ⟨Au, cu, rfl, rdu, _⟩ := own_rd hu
        clear rdu
        have hPE : putE R.length l[k].1 l[k].2 = 0 ∨ putE R.length l[k].1 l[k].2 ≠ 0 := by omega
        have hwa : WisB w.heap.size (wr.alloc (.cells #[.int .u64 (l[k].1 : Nat), .int .i64 l[k].2] 30)) p v R := ⟨hw.1.below ((Below.refl _ _).alloc (Nat.le_refl _) _), hw.2⟩
        have hua : (wr.alloc (.cells #[.int .u64 (l[k].1 : Nat), .int .i64 l[k].2] 30)).ownsRow w.heap.size 4 1 (.slice Au R.length cu) R.length (R.map Value.bool) := own_moved hu fun g hg => Below.heap_alloc wr _ g (hu.lt g hg).2
        have hba := hb.alloc hb.size (.cells #[.int .u64 (l[k].1 : Nat), .int .i64 l[k].2] 30)
        have kba := heap_alloc_new wr (.cells #[.int .u64 (l[k].1 : Nat), .int .i64 l[k].2] 30)
        by_cases hcl1 : ∃ h : k < cl.length, cl[k] = true
        case' pos =>
          obtain ⟨hk2, hct⟩ := hcl1
          obtain ⟨b', off', rfl, d0⟩ := (hcx.below hb).boolAt hk2
          rw [hct] at d0
          have hblt := World.block_lt_of_cell? wr _ d0
          have HBL := Lib.hid (bytesOf_length R)
          have KBA := Lib.hid kba; clear kba
          go_wp2_with fail
          refine (clone_any _ p v R hwa.1 (by have := HBL.out; omega)).mono ?_
          rintro e w4 ⟨p', v', rfl, hw4, hp', hv', hb4⟩
          have hpw := hwa.1.below hb4
          go_wp2_with fail
          refine (put_any w4 p 1 1 v R (by exact hpw) (by omega) (by omega)).mono ?_
          rintro e w5 ⟨rfl, hput5⟩
          have hp0 := blk_lt hwa.1.1
          have kb : w5.heap[wr.heap.size]? = some (.cells #[.int .u64 (l[k].1 : Nat), .int .i64 l[k].2] 30 (0, 0)) := by
            obtain ⟨v1, _, hm5, _⟩ := hput5
            have h4 := hb4.block wr.heap.size (by rw [World.size_alloc]; omega)
            have hne : ¬ (wr.heap.size = p ∨ v.ownBlock = some wr.heap.size) := by
              rintro (h | h)
              · have := blk_lt hw.1.1; omega
              · have := (hw.1.2.lt _ h).2; omega
            rw [hm5.block wr.heap.size (by have := hb4.size; rw [World.size_alloc] at this; omega) hne, h4]
            exact KBA.out
          obtain ⟨hw5, hu5, hbb⟩ := wk_clone rfl hwa hua hba hw4 hp' hv' hb4 hput5
          clear hwa hua hba hw hu hb hw4 hp' hv' hb4 hpw hput5 hp0 KBA HBL hblt d0
          have r0 := cell_blk kb 0
          have r1 := cell_blk kb 1
          simp at r0 r1
          have KB := Lib.hid kb; clear kb
          go_wp2_with fail
        case' neg =>
          have hcl2 : decide (k < cl.length) = false ∧ decide ((k : Int) < cl.length) = false ∨ (∃ h : k < cl.length, cl[k] = false) := by
            by_cases h : k < cl.length
            · refine .inr ⟨h, ?_⟩
              cases hc : cl[k] with
              | true => exact absurd ⟨h, hc⟩ hcl1
              | false => rfl
            · exact .inl ⟨by simpa using h, by simpa using h⟩
          clear hcl1
          have hw5 := hwa
          have hu5 := hua
          have hbb := hba
          have KB := Lib.hid kba
          clear hwa hua hba kba hw hu hb
          rcases hcl2 with ⟨hk1, hk2⟩ | ⟨hk2, hct⟩
          case' inl => go_wp2_with fail
          case' inr =>
            obtain ⟨b', off', rfl, d0⟩ := (hcx.below hbb).boolAt hk2
            rw [hct] at d0
            have hblt := World.block_lt_of_cell? _ _ d0
            go_wp2_with fail
        all_goals
          refine (may_any _ R.length l[k].1 l[k].2 (by omega) hokk.1 hokk.2.1 hokk.2.2).mono ?_
          rintro e w7 ⟨rfl, rfl⟩
          go_wp2_with fail
          refine (put_any _ _ l[k].1 l[k].2 _ R hw5.1 hokk.1 (by omega)).mono ?_
          rintro e w8 ⟨rfl, hput⟩
          obtain ⟨v8, hw8, hu8, hb8, kb8⟩ := wk_put rfl hw5 hu5 hbb KB.out hput
          clear hput hw5 hu5 hbb KB
          try clear r0 r1
          have q0 := cell_blk kb8 0
          have q1 := cell_blk kb8 1
          simp at q0 q1
          clear kb8
          have HS := Lib.hid hb8.size
          rcases hPE with hpe | hpe
          · rw [hpe] at hw8 ⊢
            simp only [if_true] at hw8
            obtain ⟨hf1, hf2, hf3⟩ := putE_fits hpe
            have HPE := Lib.hid hpe; clear hpe
            generalize l[k] = o at *
            obtain ⟨on, ow⟩ := o
            simp only at *
            obtain ⟨m, rfl⟩ := Int.eq_ofNat_of_zero_le hf1
            rw [Int.toNat_natCast] at hw8
            have HL := Lib.hid (show (R ++ bitsOf on m).length = R.length + m by rw [List.length_append, bitsOf_length])
            go_wp2_with fail
            refine (rput_any w.heap.size w8 _ R on m hu8 HS.out hokk.1 (by omega) (by omega)).mono ?_
            rintro e w9 ⟨u9, rfl, hu9, hm9, hk9⟩
            obtain ⟨hw9, hb9⟩ := wk_rput rfl hw8 hu8 hb8 hm9
            clear hw8 hu8 hb8 hm9 hk9 q0 q1
            obtain ⟨A9, c9, rfl, rd9, _⟩ := own_rd hu9
            clear rd9
            go_wp2_with fail
            refine (len_any _ _ _ _ hw9.1).mono ?_
            rintro e w10 ⟨rfl, rfl⟩
            go_wp2
            go_roundw
            case rel => exact ⟨k + 1, R ++ bitsOf on m, by omega, by have := HL.out; omega, by go_num, _, _, rfl, hw9, by rw [← List.length_append]; exact hu9, hb9⟩
            case measure => simp [intOf]; omega
          · have hpz : (((putE R.length l[k].1 l[k].2 : Nat) : Int) == 0) = false := by rw [beq_eq_false_iff_ne]; omega
            rw [if_neg hpe] at hw8
            clear hpe
            go_wp2_with fail
            refine (len_any _ _ _ _ hw8.1).mono ?_
            rintro e w10 ⟨rfl, rfl⟩
            go_wp2
            go_roundw
            case rel => exact ⟨k + 1, R, by omega, by omega, by go_num, _, _, rfl, hw8, hu8, hb8⟩
            case measure => simp [intOf]; omega
      · have hR := show R.length ≤ 12800 by omega
        obtain ⟨Au, cu, rfl, rdu, _⟩ := own_rd hu
        have HBL := Lib.hid (bytesOf_length R)
        go_wp2_with fail
        refine (bytes_any wr p v R hw.1 (by have := HBL.out; omega)).mono ?_
        rintro e w5 ⟨vb, rfl, ownb, hb5⟩
        obtain ⟨Ab, cb, rfl, rdb, _⟩ := own_rd ownb
        have hw5 := hw.1.below hb5
        have rdu5 := rdu.below hb5
        have hb5 := hb.trans (hb5.mono hb.size)
        clear ownb
        go_wp2_with fail
        refine (rbytes_any w5 Au cu R (by omega) rdu5).mono ?_
        rintro e w6 ⟨vc, rfl, ownc, hb6⟩
        obtain ⟨Ac, cc6, rfl, rdc, _⟩ := own_rd ownc
        have hw6 := hw5.below hb6
        have rdb6 := rdb.below hb6
        have rdu6 := rdu5.below hb6
        have hb6 := hb5.trans (hb6.mono hb5.size)
        clear ownc
        go_wp2_with fail
        refine (equal_yes Ab Ac cb cc6 _ _ (bytesOf R) (bytesOf R) w6 rfl rfl rfl rdb6 rdc (by have := HBL.out; omega)).mono ?_
        rintro e w7 ⟨rfl, n7, rfl⟩
        have hw7 : Wis (w6.drewN n7) p v R := hw6
        have rdu7 := rdu6.drewN n7
        have hb7 : Below w.heap.size w (w6.drewN n7) := ⟨hb6.os, hb6.tape, hb6.output, hb6.size, hb6.block⟩
        clear hw6 rdu6 hb6
        go_wp2_with fail
        refine (bytes_any _ p v R hw7 (by have := HBL.out; omega)).mono ?_
        rintro e w8 ⟨vb, rfl, ownb, hb8⟩
        obtain ⟨Ab8, cb8, rfl, rdb8, _⟩ := own_rd ownb
        have rdu8 := rdu7.below hb8
        have hb8 := hb7.trans (hb8.mono hb7.size)
        clear ownb
        go_wp2_with fail
        refine (rbytes_any w8 Au cu R (by omega) rdu8).mono ?_
        rintro e w9 ⟨vc, rfl, ownc, hb9⟩
        obtain ⟨Ac9, cc9, rfl, rdc9, _⟩ := own_rd ownc
        have rdb9 := rdb8.below hb9
        have hb9 := hb8.trans (hb9.mono hb8.size)
        clear ownc
        go_wp2_with fail
        refine (equal_yes Ab8 Ac9 cb8 cc9 _ _ (bytesOf R) (bytesOf R) w9 rfl rfl rfl rdb9 rdc9 (by have := HBL.out; omega)).mono ?_
        rintro e w10 ⟨rfl, n10, rfl⟩
        go_wp2
        go_ret
        exact ⟨rfl, ⟨hb9.os, hb9.tape, hb9.output, hb9.size, hb9.block⟩⟩
  · by_cases h200 : (l.length : Int) ≤ 200
    · have h300 : decide (300 < (cl.length : Int)) = true := by simp; omega
      go_wp2_with fail
      refine (few_any _ _ _ _).mono ?_
      rintro e w3 ⟨rfl, rfl⟩
      rw [decide_eq_true h200]
      go_wp2_with fail
      refine (live_any _).mono ?_
      rintro e w3 ⟨rfl, hb3⟩
      go_wp2
      go_ret
      exact ⟨rfl, hb2.trans (hb3.mono hb2.size)⟩
    · go_wp2_with fail
      refine (few_any _ _ _ _).mono ?_
      rintro e w3 ⟨rfl, rfl⟩
      rw [decide_eq_false (show ¬ (l.length : Int) ≤ 200 by omega)]
      go_wp2_with fail
      refine (live_any _).mono ?_
      rintro e w3 ⟨rfl, hb3⟩
      go_wp2
      go_ret
      exact ⟨rfl, hb2.trans (hb3.mono hb2.size)⟩

set_option maxRecDepth 100000 in
theorem bitsWrites_lifted (os : Os) (started : os.Started) (H : Type) (enc : TypeId × Value → H) :
    ReturnsInHanded {} Try.checked os 3 .any (Rows.bitsWritesSpec.pre6 enc Try.prog Try.f3 Rows.bitsWritesRow.domain false) (Rows.bitsWritesSpec.post enc Try.prog Try.f3 false true false false) := by
  refine returnsInHanded_of_change (C := Try.checked) ownKn started (by kernel_rfl) Try.func3
    (ChangeSpec.witness6 (enc := enc) (C := Try.checked) false ⟨#[], #[.slice none 0 0, .slice none 0 0], []⟩ 8 (by kernel_rfl) (by kernel_rfl) (by kernel_rfl) (by kernel_rfl)) ?_
  intro W base args ds gs before hval0 hW hcnd _
  have hval : ∀ (j : Nat) t v, Try.f3.params[j]? = some t → args[j]? = some v → Value.okWide Try.prog W .any base t v := hval0
  have hW' := hW
  obtain ⟨p, q, hA0, hV, rfl, hfz, hnd⟩ := hW
  have hA : DataW.TrodAll enc Try.prog W 0 (fun _ => true) true Try.f3.params.toList args.toList ds p := hA0
  rw [Try.params3] at hA hval
  obtain ⟨v0, vs0, d0, ds0, p0, q0, hargs, rfl, rfl, h0, r0⟩ := trodAll_cons hA
  obtain ⟨v1, vs1, d1, ds1, p1, q1, rfl, rfl, rfl, h1, r1⟩ := trodAll_cons r0
  obtain ⟨rfl, rfl, rfl⟩ := trodAll_nil r1
  obtain rfl : args = #[v0, v1] := by cases args; simp_all
  obtain ⟨rfl, rfl⟩ := trodVars_none hV
  obtain ⟨A0, c0, xs0, rfl, hm0, hx0⟩ := open_pairs (hval 0 22 v0 rfl rfl) h0
  obtain ⟨A1, c1, xs1, rfl, hm1, hx1⟩ := open_rd_bools Try.underlying23 Try.underlying4 (by kernel_rfl) (hval 1 23 v1 rfl rfl) h1
  clear hA0 hval0 hA
  unfold maxLen at hm0
  unfold maxLen at hm1
  refine (writes_walk A0 A1 c0 c1 xs0 xs1 W (by omega) (by omega) hx0.1 hx0.2 hx1).mono fun e W' ⟨he, hg⟩ => ?_
  subst he
  exact ⟨_, rfl, law_end laidOut (by kernel_rfl) (by kernel_rfl) Try.underlying4 rfl hW' ⟨rfl, rfl, rfl⟩ hg⟩

theorem bitsWrites_holds : Rows.BitsWritesSaid :=
  OpenClaim.holds_of_wide 3 Try.f3 rfl rfl rfl rfl rfl rfl rfl ⟨rfl, rfl, rfl, rfl, rfl⟩ rfl rfl rfl rfl rfl (by kernel_rfl) Try.func3 (by kernel_rfl)
    (of_decide_eq_true (by kernel_rfl)) (by unfold Func.isWrapper; first | (rw [if_pos (by decide +kernel)]; kernel_rfl) | (rw [if_neg (by decide +kernel)]; exact ⟨rfl, rfl⟩))
    (fun os started H enc _ => bitsWrites_lifted os started H enc)
#print axioms bitsWrites_holds
end
end Go.Proofs.Ytogakabfidahbaa
