/-
  Parse: the walk.
-/
import Derived.Test.YtgibcfeioljofaaGreatDoorMa
import Derived.Test.YtgibcfeioljofaaGreatDoorFi
namespace Go.Proofs.YtgibcfeioljofaaGreatDoor
set_option linter.unusedVariables false
set_option linter.unusedSimpArgs false
open Go.RowKit
def sizeV : Value → Nat
  | .string s => s.size
  | _ => 0
theorem markP_bare {m : UInt8} {s r : Bs} (h : markP m s = some r) : bareP r = r := by
  cases s with
  | nil => cases h
  | cons c t =>
    rw [markP_cons] at h
    split at h
    · injection h with h; subst h; exact bareP_bare t
    · cases h
theorem firstP_size {s r : Bs} {x : Lb} (h : firstP s = some (x, r)) : x.1.size ≤ s.length ∧ x.2.size ≤ s.length := by
  unfold firstP at h
  split at h
  · cases h
  · rename_i t ht
    split at h
    · cases h
    · split at h
      · cases h
      · rename_i hu
        injection h with h; injection h with h _; subst h
        simp only [mkB_size]
        have h1 := markP_lt ht
        have h2 := bareP_le (s.drop (wordN s))
        have h3 := unqP_le (s := t) (by omega)
        rw [List.length_drop] at h2
        refine ⟨by rw [List.length_take]; omega, by omega⟩
theorem list_end (k : Nat) (s : Bs) (l : List Lb) (h : firstP s = none) : parseA (k + 1) s l = endP s l := by unfold parseA; rw [h]
theorem list_more (k : Nat) (s r r' : Bs) (x : Lb) (l : List Lb) (h : firstP s = some (x, r)) (h' : markP 44 (bareP r) = some r') : parseA (k + 1) s l = parseA k r' (l ++ [x]) := by rw [parseA, h]; simp only [h']
theorem list_last (k : Nat) (s r : Bs) (x : Lb) (l : List Lb) (h : firstP s = some (x, r)) (h' : markP 44 (bareP r) = none) : parseA (k + 1) s l = endP (bareP r) (l ++ [x]) := by rw [parseA, h]; simp only [h']
/-- What the loop still has to do: all that is left, or the end alone. -/
def Left (more : Bool) (s : Bs) (l : List Lb) (L : Option (List Lb)) : Prop :=
  if more = true then ∃ k, s.length < k ∧ L = parseA k s l else L = endP s l
theorem own_rdL {w : World} {B : Nat} {v : Value} {l : List Lb} (h : w.ownsRow B 26 2 v l.length (lcells l)) : ∃ A c, v = .slice A l.length c ∧ Rd w A (lcells l) := by
  rcases h.2 with ⟨rfl, h0⟩ | ⟨g, cap, cur, rfl, hB, hg, hnc, hcm, hcs, htk⟩
  · have : l = [] := List.eq_nil_of_length_eq_zero h0
    subst this
    exact ⟨none, 0, rfl, Rd.nil _ _⟩
  · obtain ⟨_, _, _, tl, _, hg'⟩ := own_parts h
    exact ⟨some ⟨g, 0, none⟩, cap, rfl, own_rd2 hg'⟩
theorem own_belowL {w w' : World} {B : Nat} {v : Value} {n : Nat} {xs : List Value} (h : w.ownsRow B 26 2 v n xs) (hb : RowKit.Below w.heap.size w w') : w'.ownsRow B 26 2 v n xs :=
  own_moved h (fun g hg => hb.block g (h.lt g hg).2)
/-- What stands behind the list: the end's mark or not, something behind it or not. -/
theorem tail_cases (rb : ByteArray) (acc : List Lb) (L : Option (List Lb)) (R : Nat × List Lb) (hR : R = match L with | none => (8, []) | some l => makeP l) (hL : L = endP (bl rb) acc) (hb : bareP (bl rb) = bl rb) :
    (R = (8, []) ∧ ∀ W, Calls Tryz.prog 55 #[.string rb, .string ⟨#[125]⟩] W fun e w' => e = .returned (.tuple #[.string rb, .bool false]) ∧ W = w') ∨
    (R = (8, []) ∧ ∃ t : ByteArray, ¬ t.size = 0 ∧ ∀ W, Calls Tryz.prog 55 #[.string rb, .string ⟨#[125]⟩] W fun e w' => e = .returned (.tuple #[.string t, .bool true]) ∧ W = w') ∨
    (R = makeP acc ∧ ∀ W, Calls Tryz.prog 55 #[.string rb, .string ⟨#[125]⟩] W fun e w' => e = .returned (.tuple #[.string ⟨#[]⟩, .bool true]) ∧ W = w') := by
  have hbe := fun W => behind_any rb 125 W
  rw [hb] at hbe
  unfold endP at hL
  cases hm : markP 125 (bl rb) with
  | none =>
    rw [hm] at hL hbe
    rw [if_neg (by simp)] at hL
    unfold behT at hbe
    simp only [mk_bl] at hbe
    exact .inl ⟨by rw [hR, hL], hbe⟩
  | some r =>
    rw [hm] at hL hbe
    unfold behT at hbe
    simp only at hbe
    cases r with
    | nil =>
      rw [if_pos rfl] at hL
      exact .inr (.inr ⟨by rw [hR, hL], hbe⟩)
    | cons c r =>
      rw [if_neg (by simp)] at hL
      exact .inr (.inl ⟨by rw [hR, hL], _, by rw [mkB_size]; simp, hbe⟩)
section
set_option maxHeartbeats 1600000
set_option maxRecDepth 100000
theorem parse_any (s : ByteArray) (w : World) (hT : Tabs w) (hl : s.size ≤ 6000) :
    Calls Tryz.prog 28 #[.string s] w fun e w' => ∃ A' c', e = .returned (.tuple #[.slice A' (parseP (bl s)).2.length c', .int .i64 ((parseP (bl s)).1 : Nat)]) ∧
      w'.ownsRow w.heap.size 26 2 (.slice A' (parseP (bl s)).2.length c') (parseP (bl s)).2.length (lcells (parseP (bl s)).2) ∧ Below w.heap.size w w' := by
  obtain ⟨i0, hi, hz0, hz1, hz2⟩ := info_parts infoLb
  obtain ⟨R, hR⟩ : ∃ R, R = parseP (bl s) := ⟨_, rfl⟩
  rw [← hR]
  unfold parseP at hR
  have HT := Lib.hid hT; clear hT
  have hb0 := behind_any s 123 w
  cases hm : markP 123 (bareP (bl s)) with
  | none =>
    have hli : listP (bl s) = none := by unfold listP; rw [hm]
    rw [hli] at hR
    simp only at hR
    subst hR
    rw [hm] at hb0
    unfold behT at hb0
    simp only at hb0
    generalize mkB (bareP (bl s)) = t at hb0
    have HB := Lib.hid hb0; clear hb0 hm hli hi hz0 hz1 hz2
    go_enter Tryz.func28, Tryz.ntmps28
    go_wp2
    go_step3
    go_wp2_with fail
    refine HB.out.mono ?_
    rintro e w1 ⟨rfl, rfl⟩
    go_wp2
    rw [Exit.noGoto_ret]
    go_ret2
    exact ⟨none, 0, rfl, World.ownsRow_nil _ _ _ _, Below.refl _ _⟩
  | some r0 =>
    obtain ⟨L, hL⟩ : ∃ L, L = listP (bl s) := ⟨_, rfl⟩
    rw [← hL] at hR
    unfold listP at hL
    rw [hm] at hL hb0
    simp only at hL
    unfold behT at hb0
    simp only at hb0
    have hr0 : r0.length ≤ s.size := by have := markP_lt hm; have := bareP_le (bl s); rw [bl_len] at this; omega
    have hbare := markP_bare hm
    obtain ⟨rb0, hrb⟩ : ∃ rb0, rb0 = mkB r0 := ⟨_, rfl⟩
    have hrbl : bl rb0 = r0 := by rw [hrb, bl_mk]
    rw [← hrb] at hb0
    have hst : Left true (bl rb0) [] L := by unfold Left; rw [if_pos rfl, hrbl]; exact ⟨(bl s).length + 1, by rw [bl_len]; omega, hL⟩
    have hst2 : bareP (bl rb0) = bl rb0 := by rw [hrbl]; exact hbare
    have hst3 : (bl rb0).length ≤ s.size := by rw [hrbl]; exact hr0
    have HB := Lib.hid hb0
    have HST := Lib.hid hst
    have HST2 := Lib.hid hst2
    have HST3 := Lib.hid hst3
    have HR := Lib.hid hR
    clear hb0 hm hL hrb hrbl hst hst2 hst3 hbare hR hr0
    have HI := Lib.hid hi; have HZ0 := Lib.hid hz0; have HZ1 := Lib.hid hz1; have HZ2 := Lib.hid hz2
    clear hi hz0 hz1 hz2
    go_enter Tryz.func28, Tryz.ntmps28
    go_wp2
    go_step3
    go_wp2_with fail
    refine HB.out.mono ?_
    rintro e w1 ⟨rfl, rfl⟩
    go_wp2
    go_step3
    go_wp2
    go_loopw [4, 5, 6] (fun s4 s5 s6 wr => ∃ (rb : ByteArray) (more : Bool) (acc : List Lb), s4 = .string rb ∧ s5 = .bool more ∧ Aside (wr.ownsRow w.heap.size 26 2 s6 acc.length (lcells acc)) ∧ Aside (RowKit.Below w.heap.size w wr) ∧
      Aside (Left more (bl rb) acc L) ∧ Aside (bareP (bl rb) = bl rb) ∧ rb.size + acc.length ≤ s.size ∧ Aside (∀ x ∈ acc, x.1.size ≤ s.size ∧ x.2.size ≤ s.size)) (fun s4 _ _ _ => sizeV s4)
    case atStart => exact ⟨rb0, true, [], rfl, rfl, World.ownsRow_nil _ _ _ _, Below.refl _ _, HST.out, HST2.out, by have := HST3.out; rw [bl_len] at this; simpa using this, (show ∀ x ∈ [], _ from fun x hx => by cases hx)⟩
    case round =>
      obtain ⟨rb, more, acc, rfl, rfl, OW, BW, LE, BA, hsz, SZ⟩ := hrel
      cases more with
      | true =>
        obtain ⟨k, hk, hLk⟩ : ∃ k, (bl rb).length < k ∧ L = parseA k (bl rb) acc := by have := LE.out; unfold Left at this; rwa [if_pos rfl] at this
        obtain ⟨k, rfl⟩ : ∃ k', k = k' + 1 := ⟨k - 1, by omega⟩
        rw [bl_len] at hk
        have hf := first_any rb wr (by omega)
        have HLK := Lib.hid hLk; clear hLk
        cases hF : firstP (bl rb) with
        | none =>
          rw [hF] at hf
          unfold firstT at hf
          simp only at hf
          have hLE := HLK.out.trans (list_end k (bl rb) acc hF)
          have HFI := Lib.hid hf; clear hf hF HLK
          rcases tail_cases rb acc L R HR.out hLE BA.out with ⟨hr, hc⟩ | ⟨hr, t, ht, hc⟩ | ⟨hr, hc⟩
          · subst hr
            have HC := Lib.hid hc; clear hc
            clear hLE
            have HF2 := HFI
            go_wp2_with fail
            refine HF2.out.mono ?_
            rintro e w2 ⟨rfl, hb⟩
            have HBW := Lib.hid (show RowKit.Below w.heap.size w (w2.alloc (.cells #[.string ⟨#[]⟩, .string ⟨#[]⟩] 26)) from (BW.out.trans (hb.mono BW.out.size)).alloc (Nat.le_trans BW.out.size hb.size) _)
            have HOW := Lib.hid (own_belowL (own_belowL OW.out hb) ((RowKit.Below.refl _ w2).alloc (Nat.le_refl _) (.cells #[.string ⟨#[]⟩, .string ⟨#[]⟩] 26))); clear hb
            go_wp2_with fail
            refine (HC.out _).mono ?_
            rintro e w3 ⟨rfl, rfl⟩
            go_wp2
            rw [Exit.noGoto_ret]
            go_ret2
            exact ⟨none, 0, rfl, World.ownsRow_nil _ _ _ _, HBW.out⟩
          · subst hr
            obtain ⟨e1, e2⟩ := ne_empty ht
            have HC := Lib.hid hc; clear hc
            clear hLE
            have HF2 := HFI
            go_wp2_with fail
            refine HF2.out.mono ?_
            rintro e w2 ⟨rfl, hb⟩
            have HBW := Lib.hid (show RowKit.Below w.heap.size w (w2.alloc (.cells #[.string ⟨#[]⟩, .string ⟨#[]⟩] 26)) from (BW.out.trans (hb.mono BW.out.size)).alloc (Nat.le_trans BW.out.size hb.size) _)
            have HOW := Lib.hid (own_belowL (own_belowL OW.out hb) ((RowKit.Below.refl _ w2).alloc (Nat.le_refl _) (.cells #[.string ⟨#[]⟩, .string ⟨#[]⟩] 26))); clear hb
            go_wp2_with fail
            refine (HC.out _).mono ?_
            rintro e w3 ⟨rfl, rfl⟩
            go_wp2
            rw [Exit.noGoto_ret]
            go_ret2
            exact ⟨none, 0, rfl, World.ownsRow_nil _ _ _ _, HBW.out⟩
          · have HRR := Lib.hid hr; clear hr
            have HC := Lib.hid hc; clear hc
            clear hLE
            have HF2 := HFI
            go_wp2_with fail
            refine HF2.out.mono ?_
            rintro e w2 ⟨rfl, hb⟩
            have HBW := Lib.hid (show RowKit.Below w.heap.size w (w2.alloc (.cells #[.string ⟨#[]⟩, .string ⟨#[]⟩] 26)) from (BW.out.trans (hb.mono BW.out.size)).alloc (Nat.le_trans BW.out.size hb.size) _)
            have HOW := Lib.hid (own_belowL (own_belowL OW.out hb) ((RowKit.Below.refl _ w2).alloc (Nat.le_refl _) (.cells #[.string ⟨#[]⟩, .string ⟨#[]⟩] 26))); clear hb
            go_wp2_with fail
            refine (HC.out _).mono ?_
            rintro e w3 ⟨rfl, rfl⟩
            have hown := HOW.out
            obtain ⟨A', c', rfl, hrd⟩ := own_rdL hown
            have hmk := make_any A' c' acc _ (HT.out.below HBW.out) hrd ⟨by omega, fun x hx => by have := SZ.out x hx; omega⟩
            rw [← HRR.out] at hmk
            have HMK := Lib.hid hmk; clear hmk hown hrd
            go_wp2_with fail
            refine HMK.out.mono ?_
            rintro e w4 ⟨A2, c2, rfl, ho, hb⟩
            have HO := Lib.hid (ho.lower HBW.out.size); clear ho
            have HB4 := Lib.hid (HBW.out.trans (hb.mono HBW.out.size)); clear hb
            go_wp2
            rw [Exit.noGoto_ret]
            go_ret2
            exact ⟨A2, c2, rfl, HO.out, HB4.out⟩
        | some p =>
          obtain ⟨x, r⟩ := p
          rw [hF] at hf
          unfold firstT at hf
          simp only at hf
          have hlt := firstP_lt hF
          have hfs := firstP_size hF
          rw [bl_len] at hlt hfs
          have hbe := fun W => behind_any (mkB r) 44 W
          rw [bl_mk] at hbe
          have hSZ : ∀ y ∈ acc ++ [x], y.1.size ≤ s.size ∧ y.2.size ≤ s.size := fun y hy => by
            rcases List.mem_append.1 hy with hy | hy
            · exact SZ.out y hy
            · rw [List.mem_singleton] at hy; subst hy; exact ⟨by omega, by omega⟩
          have key : ∃ (rb' : ByteArray) (more' : Bool), (∀ W, Calls Tryz.prog 55 #[.string (mkB r), .string ⟨#[44]⟩] W fun e w' => e = .returned (.tuple #[.string rb', .bool more']) ∧ W = w') ∧
              Left more' (bl rb') (acc ++ [x]) L ∧ bareP (bl rb') = bl rb' ∧ rb'.size < rb.size := by
            have hbr := bareP_le r
            cases hm : markP 44 (bareP r) with
            | none =>
              rw [hm] at hbe
              unfold behT at hbe
              simp only at hbe
              refine ⟨_, _, hbe, ?_, by rw [bl_mk, bareP_bare], by rw [mkB_size]; omega⟩
              unfold Left
              rw [if_neg (by simp), bl_mk, HLK.out, list_last k _ r x acc hF hm]
            | some r' =>
              rw [hm] at hbe
              unfold behT at hbe
              simp only at hbe
              have hlt' := markP_lt hm
              refine ⟨_, _, hbe, ?_, by rw [bl_mk, markP_bare hm], by rw [mkB_size]; omega⟩
              unfold Left
              rw [if_pos rfl, bl_mk]
              exact ⟨k, by omega, by rw [HLK.out, list_more k _ r r' x acc hF hm]⟩
          obtain ⟨rb', more', hbe', hle', hba', hsz'⟩ := key
          have HBE := Lib.hid hbe'; clear hbe hbe'
          have HLE := Lib.hid hle'; clear hle'
          have HBA := Lib.hid hba'; clear hba'
          have HSZ := Lib.hid hSZ; clear hSZ
          obtain ⟨x1, x2⟩ := x
          simp only at hf
          have hlc : lcells (acc ++ [(x1, x2)]) = lcells acc ++ [.string x1, .string x2] := by rw [lcells_append]; rfl
          have HLC := Lib.hid hlc; clear hlc
          have HFI := Lib.hid hf; clear hf hF HLK hfs
          generalize mkB r = ra at HBE HFI
          obtain ⟨A6, c6, hv6, -⟩ := own_rdL OW.out
          subst hv6
          go_wp2_with fail
          refine HFI.out.mono ?_
          rintro e w2 ⟨rfl, hb⟩
          have hOW2 := (own_belowL OW.out hb).alloc (.cells #[.string x1, .string x2] 26)
          have hBW2 : RowKit.Below w.heap.size w (w2.alloc (.cells #[.string x1, .string x2] 26)) := (BW.out.trans (hb.mono BW.out.size)).alloc (Nat.le_trans BW.out.size hb.size) _
          have HBW2 := Lib.hid hBW2; clear hBW2 hb
          have hs2 : w.heap.size ≤ w2.heap.size + 1 := by have := HBW2.out.size; simpa using this
          have hi := HI.out; have hz0 := HZ0.out; have hz1 := HZ1.out; have hz2 := HZ2.out
          go_wp2_with (first
            | (at_builtin; go_must (refine wpList_append_own _ rfl _ _ 23 rfl w.heap.size 26 i0 (.agg #[.string ⟨#[]⟩, .string ⟨#[]⟩]) 2 32 Tryz.underlying23 hi hz0 hz1 hz2 rfl (by decide) _ acc.length (lcells acc) rfl (hOW2.alloc _) ⟨w2.heap.size + 1, 0, none⟩ 1 1 [.string x1, .string x2] rfl rfl (World.news_of_block (by have := heap_alloc_new (w2.alloc (.cells #[.string x1, .string x2] 26)) (.cells #[.string x1, .string x2] 26); rwa [World.size_alloc] at this)) (by simp [Value.oneCell']) (by unfold maxLen; omega) (by omega) (by simp; omega) ?_; intro v3 w3 own3 grow3 _))
            | fail)
          have hb3 : RowKit.Below w.heap.size w w3 := (HBW2.out.alloc HBW2.out.size (.cells #[.string x1, .string x2] 26)).grown grow3 (by have := HBW2.out.size; simp at this ⊢; omega) (fun k h => (hOW2.lt k h).1)
          have HB3 := Lib.hid hb3; clear hb3 grow3
          have hown3 : w3.ownsRow w.heap.size 26 2 v3 (acc ++ [(x1, x2)]).length (lcells (acc ++ [(x1, x2)])) := by
            rw [HLC.out, List.length_append, List.length_singleton]; exact own3
          have HO3 := Lib.hid hown3; clear hown3 own3 hOW2 hi hz0 hz1 hz2
          have k0 : rb'.size + (acc ++ [(x1, x2)]).length ≤ s.size := by rw [List.length_append, List.length_singleton]; omega
          go_wp2_with fail
          refine (HBE.out _).mono ?_
          rintro e w4 ⟨rfl, rfl⟩
          go_wp2
          go_roundw
          case rel => exact ⟨rb', more', acc ++ [(x1, x2)], rfl, rfl, (show Aside _ from HO3.out), (show Aside _ from HB3.out), (show Aside _ from HLE.out), (show Aside _ from HBA.out), k0, (show Aside _ from HSZ.out)⟩
          case measure => exact hsz'
      | false =>
        have hLE : L = endP (bl rb) acc := by have := LE.out; unfold Left at this; rwa [if_neg (by simp)] at this
        rcases tail_cases rb acc L R HR.out hLE BA.out with ⟨hr, hc⟩ | ⟨hr, t, ht, hc⟩ | ⟨hr, hc⟩
        · subst hr
          have HC := Lib.hid hc; clear hc
          clear hLE
          have HBW := Lib.hid BW.out
          have HOW := Lib.hid OW.out
          go_wp2_with fail
          refine (HC.out _).mono ?_
          rintro e w3 ⟨rfl, rfl⟩
          go_wp2
          rw [Exit.noGoto_ret]
          go_ret2
          exact ⟨none, 0, rfl, World.ownsRow_nil _ _ _ _, HBW.out⟩
        · subst hr
          obtain ⟨e1, e2⟩ := ne_empty ht
          have HC := Lib.hid hc; clear hc
          clear hLE
          have HBW := Lib.hid BW.out
          have HOW := Lib.hid OW.out
          go_wp2_with fail
          refine (HC.out _).mono ?_
          rintro e w3 ⟨rfl, rfl⟩
          go_wp2
          rw [Exit.noGoto_ret]
          go_ret2
          exact ⟨none, 0, rfl, World.ownsRow_nil _ _ _ _, HBW.out⟩
        · have HRR := Lib.hid hr; clear hr
          have HC := Lib.hid hc; clear hc
          clear hLE
          have HBW := Lib.hid BW.out
          have HOW := Lib.hid OW.out
          go_wp2_with fail
          refine (HC.out _).mono ?_
          rintro e w3 ⟨rfl, rfl⟩
          have hown := HOW.out
          obtain ⟨A', c', rfl, hrd⟩ := own_rdL hown
          have hmk := make_any A' c' acc _ (HT.out.below HBW.out) hrd ⟨by omega, fun x hx => by have := SZ.out x hx; omega⟩
          rw [← HRR.out] at hmk
          have HMK := Lib.hid hmk; clear hmk hown hrd
          go_wp2_with fail
          refine HMK.out.mono ?_
          rintro e w4 ⟨A2, c2, rfl, ho, hb⟩
          have HO := Lib.hid (ho.lower HBW.out.size); clear ho
          have HB4 := Lib.hid (HBW.out.trans (hb.mono HBW.out.size)); clear hb
          go_wp2
          rw [Exit.noGoto_ret]
          go_ret2
          exact ⟨A2, c2, rfl, HO.out, HB4.out⟩
end
end Go.Proofs.YtgibcfeioljofaaGreatDoor
