/-
  The chapter's example of a log, plainly.
  The chapter's example of a log comes out as the document says.
-/
import Derived.Laws.BytesArg
import Derived.Lib.SlBytesConst
import Derived.Test.YtnmbjhpecblioaaGreatDoorWo
import Derived.Test.YtnmbjhpecblioaaGreatDoorFl
import Derived.Test.YtnmbjhpecblioaaGreatDoorWq
import Derived.Test.YtnmbjhpecblioaaGreatDoorLit
namespace Go.Proofs.YtnmbjhpecblioaaGreatDoor
set_option linter.unusedVariables false
set_option linter.unusedSimpArgs false
section
set_option linter.unusedVariables false
set_option linter.unusedSimpArgs false
open Go.RowKit
theorem len2 (x y : UInt8) : (frameF [x, y]).length = 7 := by
  rw [frameF_length]
  have h : pu ([x, y] : List UInt8).length = [2] := pu_last (n := 2) (by decide)
  rw [h]; rfl
theorem valid1 : titleB (bl (titleN 1)) = true := title_valid (n := 1) (by decide)
theorem look1 (t : ByteArray) (b : List UInt8) (n : Nat) : lookL [(t, b, n)] t = some (t, b, n) := by simp [lookL]
theorem upd1 (t : ByteArray) (b b' : List UInt8) (n n' : Nat) : updL [(t, b, n)] (t, b', n') = [(t, b', n')] := by simp [updL]
theorem la1 : wappP 1000 ([], 1, 0, 0) [97, 98] = (0, [(titleN 1, frameF [97, 98], 0)], 1, 1, 0) := by
  have hl := len2 97 98
  have hto : wtoP ([], 1, 0, 0) (frameF [97, 98]).length = 1 := by unfold wtoP; rw [if_neg (by rintro ⟨h, -⟩; exact absurd h (by decide))]
  have htk : wtakesP 1000 [] 1 (frameF [97, 98]).length = 0 := by
    unfold wtakesP
    rw [if_neg (by rw [hl]; decide), if_neg (by rintro ⟨-, h⟩; exact absurd h (by decide))]
  unfold wappP
  rw [if_neg (by decide), hto, htk, if_neg (by decide), if_pos rfl, if_pos rfl]
  unfold appD
  rw [if_neg (by rw [show ((1 : Nat) : Int) = (1 : Int) from rfl, valid1]; decide)]
  have h0 : lookL [] (titleN ((1 : Nat) : Int)) = none := rfl
  rw [h0]
  simp only
  rw [if_neg (by decide), if_neg (by rw [hl]; decide)]
  rfl
theorem la2 : wsyncP ([(titleN 1, frameF [97, 98], 0)], 1, 1, 0) = ([(titleN 1, frameF [97, 98], 7)], 1, 1, 1) := by
  unfold wsyncP syncD
  simp only
  rw [show ((1 : Nat) : Int) = (1 : Int) from rfl, look1]
  simp only
  rw [upd1, len2]
theorem la3 : wappP 1000 ([(titleN 1, frameF [97, 98], 7)], 1, 1, 1) [99, 100] = (0, [(titleN 1, frameF [97, 98] ++ frameF [99, 100], 7)], 1, 2, 1) := by
  have hl := len2 97 98; have hl2 := len2 99 100
  have hto : wtoP ([(titleN 1, frameF [97, 98], 7)], 1, 1, 1) (frameF [99, 100]).length = 1 := by
    unfold wtoP lenW
    simp only
    rw [show ((1 : Nat) : Int) = (1 : Int) from rfl, look1]
    simp only
    rw [if_neg (by rw [hl, hl2]; decide)]
  have htk : wtakesP 1000 [(titleN 1, frameF [97, 98], 7)] 1 (frameF [99, 100]).length = 0 := by
    unfold wtakesP
    rw [if_neg (by unfold lenL; simp only [List.map_cons, List.map_nil, List.sum_cons, List.sum_nil]; rw [hl, hl2]; decide), if_neg (by rintro ⟨-, h⟩; exact absurd h (by decide))]
  unfold wappP
  rw [if_neg (by decide), hto, htk, if_neg (by decide), if_pos rfl, if_pos rfl]
  unfold appD
  rw [if_neg (by rw [show ((1 : Nat) : Int) = (1 : Int) from rfl, valid1]; decide), show ((1 : Nat) : Int) = (1 : Int) from rfl, look1]
  simp only
  rw [if_neg (by unfold lenL; simp only [List.map_cons, List.map_nil, List.sum_cons, List.sum_nil]; rw [hl, hl2]; decide), upd1]
theorem la4 : crashD 3 [(titleN 1, frameF [97, 98] ++ frameF [99, 100], 7)] = [(titleN 1, (framesF [[97, 98], [99, 100]]).take 10, 10)] := by
  have hl := len2 97 98; have hl2 := len2 99 100
  have hle : leftD 3 (titleN 1, frameF [97, 98] ++ frameF [99, 100], 7) = 10 := by
    unfold leftD
    simp only [List.length_append, hl, hl2]
    decide
  unfold crashD
  rw [List.filterMap_cons, List.filterMap_nil]
  unfold crashF
  rw [hle, if_neg (by decide)]
  simp [framesF]
theorem la5 (b : List UInt8) (n : Nat) : segsW [(titleN 1, b, n)] = [1] := by
  unfold segsW
  rw [List.filterMap_cons, List.filterMap_nil, show titleN 1 = titleN ((1 : Nat) : Int) from rfl, num_title (by decide)]
theorem gap1 : ¬ gapW [1] := fun h => h.2 rfl
theorem last1 : lastW [1] = 1 := rfl
theorem la6 : openR [(titleN 1, (framesF [[97, 98], [99, 100]]).take 10, 10)] 1 [1] = ([[97, 98]], 0, some 7) := by
  have hl := len2 97 98; have hl2 := len2 99 100
  have hw : wholeF [[97, 98], [99, 100]] 10 = (1, 7) := by
    rw [wholeF_step _ _ _ (by rw [hl]; decide), hl, wholeF_stop _ _ _ (by rw [hl2]; decide)]
    rfl
  have hf : (framesF [[97, 98], [99, 100]]).length = 14 := by simp [framesF, hl, hl2]
  obtain ⟨ht, -, -⟩ := allF_torn [[97, 98], [99, 100]] 10 (by decide) (by rw [hf]; decide)
  rw [hw] at ht
  have hb : bytesW [(titleN 1, (framesF [[97, 98], [99, 100]]).take 10, 10)] 1 = (framesF [[97, 98], [99, 100]]).take 10 := by
    unfold bytesW
    rw [show ((1 : Nat) : Int) = (1 : Int) from rfl, look1]
  rw [openR, hb, ht]
  rfl
theorem la7 : cutW [(titleN 1, (framesF [[97, 98], [99, 100]]).take 10, 10)] 1 (some 7) = [(titleN 1, ((framesF [[97, 98], [99, 100]]).take 10).take 7, 7)] := by
  have hl := len2 97 98; have hl2 := len2 99 100
  have hf : (framesF [[97, 98], [99, 100]]).length = 14 := by simp [framesF, hl, hl2]
  unfold cutW cutD
  simp only
  rw [show ((1 : Nat) : Int) = (1 : Int) from rfl, look1]
  simp only
  rw [if_neg (by rw [List.length_take, hf]; decide), upd1]
  rfl
theorem len7 : (((framesF [[97, 98], [99, 100]]).take 10).take 7).length = 7 := by
  have hl := len2 97 98; have hl2 := len2 99 100
  have hf : (framesF [[97, 98], [99, 100]]).length = 14 := by simp [framesF, hl, hl2]
  rw [List.length_take, List.length_take, hf]; decide
theorem title1 : titleN 1 = ⟨#[119, 97, 108, 46, 48, 48, 48, 48, 48, 48, 48, 49]⟩ := by
  rw [show titleN 1 = titleN ((1 : Nat) : Int) from rfl, title_in (by decide)]
  unfold wdig
  rw [Lib.decDigits_one (by decide)]
  rfl
end
section
set_option linter.unusedVariables false
set_option linter.unusedSimpArgs false
open Go.Maps Go.RowKit
section
set_option maxHeartbeats 3200000
set_option maxRecDepth 100000
theorem wlive_any (w : World) (hT : TabW w) : Calls Tryz.prog 9 #[] w fun e w' => e = .returned (.bool true) ∧ Below w.heap.size w w' := by
  have HT := Lib.hid hT; clear hT
  go_enter Tryz.func9, Tryz.ntmps9
  go_wp2_with fail
  with_reducible refine (dnew_any 1000 w (by decide)).mono ?_
  rintro e w1 ⟨rfl, D1, hb1⟩
  rw [show Int.toNat 1000 = 1000 from rfl] at D1
  obtain ⟨db, hdb⟩ : ∃ db, db = w.heap.size + 1 := ⟨_, rfl⟩
  obtain ⟨mb, hmb⟩ : ∃ mb, mb = w.heap.size := ⟨_, rfl⟩
  rw [← hdb] at D1 ⊢
  have hS1 : DiskS w w1 db mb 1000 [] [] := ⟨by rw [hmb]; exact D1, (fun f hf => by simp at hf), rfl, (fun k hk => by
    rcases hk with h | h | ⟨e, he, _⟩
    · omega
    · omega
    · simp at he), hb1, HT.out⟩
  have HS1 := Lib.hid hS1
  clear D1 hb1 hS1 hdb hmb
  go_wp2_with fail
  with_reducible refine HS1.out.open.mono ?_
  intro e w2 hO
  obtain ⟨lb, v, P, es2, rfl, hP, hx, hL, -, -⟩ := HS1.out.opened hO (fun h => absurd h.1 (by decide)) (x := []) (cut := none) (by rw [show segsW [] = [] from rfl, openR])
  have hP0 : P = [] := by simpa using hx
  subst hP0
  obtain ⟨Av, cv, rfl, -⟩ := own_rd hP.1
  rw [show (cutW [] (lastW (segsW [])) none, lastW (segsW []), ([] : List (List UInt8)).length, ([] : List (List UInt8)).length) = (([], 1, 0, 0) : Lg) from rfl] at hL
  have HL := Lib.hid hL
  clear hO hP hx hL HS1
  have hcv := lit_bytes w2 #[.int .u8 97, .int .u8 98] 2 2
  go_wp2_with fail
  clear hcv
  have hb2 := (Below.refl _ w2).alloc (Nat.le_refl _) (.cells #[.int .u8 97, .int .u8 98] 5 (2, 3))
  have hA := (HL.out.below hb2).app_len (some ⟨w2.heap.size, 0, none⟩) 2 2 [97, 98] rfl (rd_mark w2 ([97, 98].map Bv) _ _) (by decide) (by decide)
  rw [la1] at hA
  have HA := Lib.hid hA
  clear hA hb2
  with_reducible refine HA.out.mono ?_
  rintro e w3 ⟨rfl, es3, L3⟩
  have HL3 := Lib.hid L3; clear L3 HA HL
  go_wp2_with fail
  with_reducible refine HL3.out.sync.mono ?_
  rw [la2]
  rintro e w4 ⟨rfl, es4, L4⟩
  have HL4 := Lib.hid L4; clear L4 HL3
  have hcv := lit_bytes w4 #[.int .u8 99, .int .u8 100] 2 2
  go_wp2_with fail
  clear hcv
  have hb2 := (Below.refl _ w4).alloc (Nat.le_refl _) (.cells #[.int .u8 99, .int .u8 100] 5 (2, 3))
  have hA := (HL4.out.below hb2).app_len (some ⟨w4.heap.size, 0, none⟩) 2 2 [99, 100] rfl (rd_mark w4 ([99, 100].map Bv) _ _) (by decide) (by decide)
  rw [la3] at hA
  have HA := Lib.hid hA
  clear hA hb2
  with_reducible refine HA.out.mono ?_
  rintro e w5 ⟨rfl, es5, L5⟩
  have HL5 := Lib.hid L5; clear L5 HA HL4
  go_wp2_with fail
  with_reducible refine (HL5.out.crash 3).mono ?_
  simp only
  rw [la4]
  rintro e w6 ⟨rfl, es6, L6⟩
  have HL6 := Lib.hid L6; clear L6 HL5
  have HD6 := Lib.hid (HL6.out.disk HT.out)
  go_wp2_with fail
  with_reducible refine HD6.out.open.mono ?_
  intro e w7 hO
  obtain ⟨lb2, v, P, es7, rfl, hP, hx, hL, hm7, hf7⟩ := HD6.out.opened hO (by rw [la5]; exact gap1) (x := [[97, 98]]) (cut := some 7) (by rw [la5, last1]; exact la6)
  rw [la5, last1, la7] at hL
  have hL7 := HL6.out.other hL.l.disk hL.l.named hm7 hf7
  rw [hL.is] at hL7
  simp only at hL7
  obtain ⟨p, rfl⟩ : ∃ p, P = [p] := by
    have := congrArg List.length hx
    rw [List.length_map] at this
    exact List.length_eq_one_iff.1 this
  obtain ⟨Ap, cp, bp⟩ := p
  have hbp : bp = [97, 98] := by simpa using hx
  subst hbp
  obtain ⟨hrv, hrp⟩ : True ∧ True := ⟨trivial, trivial⟩
  obtain ⟨Av, cv, rfl, hrd, -, hcv1, -⟩ := own_rd hP.1
  have hr1 := (AllIs.rd hP).2 _ (List.mem_singleton.2 rfl)
  have HL7 := Lib.hid hL7
  have hrb := read_bytes hL7.l.disk 1 (by rw [hL7.is]; simp only; rw [show ((1 : Nat) : Int) = (1 : Int) from rfl, look1]; exact fun e => by cases e)
  have hby : bytesW (es7.map val) 1 = ((framesF [[97, 98], [99, 100]]).take 10).take 7 := by
    rw [hL7.is]; unfold bytesW; simp only; rw [show ((1 : Nat) : Int) = (1 : Int) from rfl, look1]
  rw [hby, len7, show ((1 : Nat) : Int) = (1 : Int) from rfl, title1] at hrb
  have HRB := Lib.hid hrb
  have HR1 := Lib.hid hr1; have HRD := Lib.hid hrd
  clear hO hP hx hL hm7 hf7 hL7 hrb hby hr1 hrd HL6 HD6
  go_wp2_with fail
  with_reducible refine HRB.out.mono ?_
  rintro e w8 ⟨A8, c8, rfl, -, -, -, hb8⟩
  have HL8 := Lib.hid (HL7.out.below hb8)
  have HR8 := Lib.hid (HR1.out.below hb8); have HRD8 := Lib.hid (HRD.out.below hb8)
  clear hb8
  obtain ⟨b, off, rfl, r0⟩ := HRD8.out 0 _ rfl
  rw [Nat.add_zero, show partV (Ap, cp, [97, 98]) = .slice Ap 2 cp from rfl] at r0
  obtain ⟨b2, off2, rfl, p0⟩ := HR8.out 0 _ rfl
  have p1 : w8.cell? ⟨b2, off2 + 1, none⟩ = some (.int .u8 98) := by
    obtain ⟨b', o', e', p1⟩ := HR8.out 1 _ rfl
    injection e' with e'; injection e' with e1 e2; subst e1 e2; exact p1
  have hcs := run_convert_bytes_arg (P := Tryz.prog) w8 29 5 Tryz.underlying29 Tryz.underlying5 b2 off2 2 cp [97, 98] rfl (fun i hi => by
    have : i = 0 ∨ i = 1 := by omega
    rcases this with rfl | rfl
    · exact p0
    · exact p1) 9 Tryz.underlying9
  have hst : (strOfNums [97, 98]).toList = [97, 98] := by rw [Lib.toList_data]; rfl
  have HSU := Lib.hid (wsure_any HL8.out.l); have HCO := Lib.hid (wcount_any HL8.out.l)
  simp only at HSU HCO
  have hc1 : (1 : Int) ≤ (cv : Int) := by
    have h := hcv1
    try simp only [List.length_singleton] at h
    omega
  clear p0 p1
  go_wp2_with fail
  with_reducible refine HSU.out.mono ?_
  rintro e w9 ⟨rfl, rfl⟩
  go_wp2_with fail
  with_reducible refine HCO.out.mono ?_
  rintro e w9 ⟨rfl, rfl⟩
  go_wp2
  go_ret
  exact ⟨rfl, HL8.out.low⟩
end
end
end Go.Proofs.YtnmbjhpecblioaaGreatDoor
