/- MatchTexts (P7.3). -/
import Derived.Test.YtinjdlplbficiaaGreatDoorRmh
import Derived.Test.YtinjdlplbficiaaGreatDoorRmr
import Derived.Test.YtinjdlplbficiaaGreatDoorMlw
import Derived.Test.YtinjdlplbficiaaGreatDoorRsm
namespace Go.Proofs.YtinjdlplbficiaaGreatDoor
set_option linter.unusedVariables false
set_option linter.unusedSimpArgs false
open Go.ChangeMaps (open_string)
open Go.ChangeShapes Go.WideShapes Go.ChangeAt Go.RowKit
theorem tr {a b c : World} (h : RowKit.Below a.heap.size a b) (k : RowKit.Below b.heap.size b c) : RowKit.Below a.heap.size a c := h.trans (k.mono h.size)
local macro "gw" : tactic => `(tactic| go_wp2_with fail)
def NamN (N : Nat) (l : List Mt') : Prop := ∀ m ∈ l, m.2.1.size ≤ N
theorem one_name {s r : Bs} {m : Mt'} (h : oneR s = some (m, r)) : m.2.1.size ≤ s.length := by
 unfold oneR at h
 split at h
 ·cases h
 ·split at h
  ·cases h
  ·split at h
   ·cases h
   ·injection h with h; injection h with h _; subst h
    simp only [mkB_size, List.length_take]; omega
theorem body_all {N : Nat} : ∀ (n : Nat) (s : Bs) (l l' : List Mt') (r : Bs), bodyR n s l = some (l', r) → s.length ≤ N → NamN N l → NamN N l' ∧ l'.length + r.length ≤ l.length + s.length
 | 0, s, l, l', r, h, _, _ => by unfold bodyR at h; cases h
 | n + 1, s, l, l', r, h, hs, hl => by
  unfold bodyR at h
  split at h
  ·cases h
  ·split at h
   ·injection h with h; injection h with h1 h2; subst h1; subst h2
    exact ⟨hl, by rw [List.length_tail]; omega⟩
   ·cases ho : oneR s with
    | none => rw [ho] at h; cases h
    | some q =>
     obtain ⟨m, q⟩ := q
     rw [ho] at h
     simp only at h
     have h1 := oneR_lt ho
     have h2 := one_name ho
     have hl' : NamN N (l ++ [m]) := fun x hx => by
      rcases List.mem_append.1 hx with hx | hx
      ·exact hl x hx
      ·rw [List.mem_singleton] at hx; subst hx; omega
     split at h
     ·have h3 := bareP_le q.tail
      rw [List.length_tail] at h3
      obtain ⟨a, b⟩ := body_all n _ _ _ _ h (by omega) hl'
      exact ⟨a, by rw [List.length_append, List.length_singleton] at b; omega⟩
     ·split at h
      ·obtain ⟨a, b⟩ := body_all n _ _ _ _ h (by omega) hl'
       exact ⟨a, by rw [List.length_append, List.length_singleton] at b; omega⟩
      ·cases h
theorem head_all {s r : Bs} {l : List Mt'} (h : headR s = some (l, r)) : NamN (s.length + 8) l ∧ l.length ≤ s.length + 1 ∧ r.length ≤ s.length + 1 := by
 unfold headR at h
 split at h
 ·cases h
 ·have hb := bareP_le (s.drop (wordN s))
  have hb2 := bareP_le (bareP (s.drop (wordN s))).tail
  rw [List.length_tail] at hb2
  rw [List.length_drop] at hb
  have hn : bareName.size = 8 := rfl
  have hl0 : NamN (s.length + 8) (if wordN s ≠ 0 then [(1, bareName, mkB (s.take (wordN s)))] else []) ∧ (if wordN s ≠ 0 then [((1 : Int), bareName, mkB (s.take (wordN s)))] else []).length ≤ 1 := by
   split
   ·refine ⟨fun m hm => ?_, by simp⟩
    rw [List.mem_singleton] at hm; subst hm; simp only; omega
   ·exact ⟨fun m hm => (by cases hm), by simp⟩
  simp only at h
  split at h
  ·obtain ⟨a, b⟩ := body_all _ _ _ _ _ h (by omega) hl0.1
   exact ⟨a, by have := hl0.2; omega, by have := hl0.2; omega⟩
  ·split at h
   ·rename_i hw
    injection h with h; injection h with h1 h2; subst h1; subst h2
    rw [if_pos hw] at hl0
    exact ⟨hl0.1, by simp, by rw [List.length_drop]; omega⟩
   ·cases h
section
set_option maxHeartbeats 3200000
set_option maxRecDepth 100000
theorem rmparse_any (s : ByteArray) (w : World) (hs : s.size ≤ 6000) : Calls Tryz.prog 7 #[.string s] w fun e w' =>
  ∃ A c, e = .returned (.tuple #[.slice A (parseM (bl s)).2.length c, .int .i64 ((parseM (bl s)).1 : Nat)]) ∧ w'.ownsRow w.heap.size 37 3 (.slice A (parseM (bl s)).2.length c) (parseM (bl s)).2.length (mcells (parseM (bl s)).2) ∧ RowKit.Below w.heap.size w w' := by
 obtain ⟨R, hR⟩ : ∃ R, parseM (bl s) = R := ⟨_, rfl⟩
 rw [hR]
 unfold parseM at hR
 have hvals := fun l (h : readM (bl s) = some l) => read_vals h
 rw [read_same] at hR hvals
 unfold readR at hR hvals
 have hba := fun W => rbare_any s W (by omega)
 obtain ⟨t, ht⟩ : ∃ t, t = mkB (bareP (bl s)) := ⟨_, rfl⟩
 have htb : bareP (bl s) = bl t := by rw [ht, bl_mk]
 have hts : t.size ≤ s.size := by rw [ht, mkB_size, ← bl_len]; exact bareP_le _
 simp only [← ht] at hba
 rw [htb] at hR hvals
 clear htb ht
 have hhd := fun W => rhead_any t W (by omega)
 have hal := fun l r (h : headR (bl t) = some (l, r)) => head_all h
 rw [bl_len] at hal
 generalize headR (bl t) = H at hR hvals hhd hal
 unfold HdOut at hhd
 have HBA := Lib.hid hba; have HHD := Lib.hid hhd
 clear hba hhd
 cases H with
 | none =>
  simp only at hR
  subst hR
  clear hvals hal
  go_enter Tryz.func7, Tryz.ntmps7
  gw
  refine (HBA.out _).mono ?_
  rintro e w1 ⟨rfl, rfl⟩
  gw
  refine (HHD.out _).mono ?_
  rintro e w2 ⟨v, x, rfl, -, hb2⟩
  have HB2 := Lib.hid hb2; clear hb2
  go_wp2
  go_ret2
  exact ⟨none, 0, rfl, World.ownsRow_nil _ _ _ _, HB2.out⟩
 | some q =>
  obtain ⟨l, r⟩ := q
  obtain ⟨hn, hll, hrl⟩ := hal l r rfl
  simp only at hR hvals
  have hb2 := fun W => rbare_any (mkB r) W (by rw [mkB_size]; omega)
  rw [bl_mk] at hb2
  have HB2 := Lib.hid hb2; clear hb2
  by_cases hz : bareP r = []
  ·rw [if_pos hz] at hR hvals
   simp only at hR
   have hv := hvals l rfl
   rw [bl_len] at hv
   rw [hz, show mkB [] = ⟨#[]⟩ from rfl] at HB2
   have hrt := fun A c W (hx : Rd W A (mcells l)) => rmright_any A c l W hx (by omega) (fun m hm => ⟨by have := hn m hm; omega, by have := hv m hm; omega⟩)
   clear hvals hn hv hz
   generalize rightM l = C at hR hrt
   have HRT := Lib.hid hrt; clear hrt
   by_cases hc : C = 0
   ·subst hc
    simp only [ne_eq, not_true_eq_false, if_false] at hR
    subst hR
    go_enter Tryz.func7, Tryz.ntmps7
    gw
    refine (HBA.out _).mono ?_
    rintro e w1 ⟨rfl, rfl⟩
    gw
    refine (HHD.out _).mono ?_
    rintro e w2 ⟨v, x, rfl, hown, hb3⟩
    obtain ⟨rfl, ho2⟩ := hown l r rfl
    clear hown; have hown := ho2; clear ho2
    obtain ⟨A, c, rfl, hrd, -, -⟩ := own_rd_mt hown
    have HB3 := Lib.hid hb3; have HO := Lib.hid hown; have HRD := Lib.hid hrd
    clear hb3 hown hrd
    gw
    refine (HB2.out _).mono ?_
    rintro e w3 ⟨rfl, rfl⟩
    gw
    refine (HRT.out A c _ HRD.out).mono ?_
    rintro e w4 ⟨rfl, hb4⟩
    have HO4 := Lib.hid (own_below_mt HO.out hb4)
    have HB4 := Lib.hid (tr HB3.out hb4); clear hb4
    go_wp2
    go_ret2
    exact ⟨A, c, rfl, HO4.out, HB4.out⟩
   ·rw [if_pos hc] at hR
    subst hR
    have g1 : ((C : Int) != 0) = true := by rw [bne_iff_ne]; omega
    go_enter Tryz.func7, Tryz.ntmps7
    gw
    refine (HBA.out _).mono ?_
    rintro e w1 ⟨rfl, rfl⟩
    gw
    refine (HHD.out _).mono ?_
    rintro e w2 ⟨v, x, rfl, hown, hb3⟩
    obtain ⟨rfl, ho2⟩ := hown l r rfl
    clear hown; have hown := ho2; clear ho2
    obtain ⟨A, c, rfl, hrd, -, -⟩ := own_rd_mt hown
    have HB3 := Lib.hid hb3; have HRD := Lib.hid hrd
    clear hb3 hown hrd
    gw
    refine (HB2.out _).mono ?_
    rintro e w3 ⟨rfl, rfl⟩
    gw
    refine (HRT.out A c _ HRD.out).mono ?_
    rintro e w4 ⟨rfl, hb4⟩
    have HB4 := Lib.hid (tr HB3.out hb4); clear hb4
    go_wp2
    go_ret2
    exact ⟨none, 0, rfl, World.ownsRow_nil _ _ _ _, HB4.out⟩
  ·rw [if_neg hz] at hR
   simp only at hR
   subst hR
   obtain ⟨z, hzz⟩ : ∃ z, z = mkB (bareP r) := ⟨_, rfl⟩
   have hzs : z.size ≠ 0 := by rw [hzz, mkB_size]; exact fun h => hz (List.eq_nil_of_length_eq_zero h)
   rw [← hzz] at HB2
   obtain ⟨e5, e6⟩ := ne_empty hzs
   clear hvals hal hz hzs hzz hn
   go_enter Tryz.func7, Tryz.ntmps7
   gw
   refine (HBA.out _).mono ?_
   rintro e w1 ⟨rfl, rfl⟩
   gw
   refine (HHD.out _).mono ?_
   rintro e w2 ⟨v, x, rfl, hown, hb3⟩
   obtain ⟨rfl, -⟩ := hown l r rfl
   have HB3 := Lib.hid hb3; clear hb3 hown
   gw
   refine (HB2.out _).mono ?_
   rintro e w3 ⟨rfl, rfl⟩
   go_wp2
   go_ret2
   exact ⟨none, 0, rfl, World.ownsRow_nil _ _ _ _, HB3.out⟩
theorem parse_few (s : Bs) : (parseM s).2.length ≤ 16 := by
 unfold parseM
 split
 ·exact Nat.zero_le _
 ·rename_i l _
  split
  ·exact Nat.zero_le _
  ·rename_i h
   exact (rightM_zero.1 (Decidable.not_not.1 h)).1
theorem mtexts_walk (A : Option Addr) (c : Nat) (l : List Mt') (s : ByteArray) (w : World) (hT : Tabs w) (hx : Rd w A (mcells l)) (hc : l.length ≤ c) :
  Calls Tryz.prog 3 #[.slice A l.length c, .string s] w fun e w' => e = .returned (.bool true) ∧ RowKit.Below w.heap.size w w' := by
 have HLV := Lib.hid (fun (W' : World) (hb : RowKit.Below w.heap.size w W') => mlive_any W' (hT.below hb))
 have HX := Lib.hid hx; have HT := Lib.hid hT
 clear hx hT
 go_enter Tryz.func3, Tryz.ntmps3
 gw
 refine (HLV.out w (RowKit.Below.refl _ _)).mono ?_
 rintro e w1 ⟨rfl, hb1⟩
 have HB1 := Lib.hid hb1; clear hb1
 have hf := mfew_any A c l w1 (HX.out.below HB1.out)
 cases hfl : fewL l with
 | false =>
  rw [hfl] at hf
  have HF := Lib.hid hf; clear hf
  gw
  refine HF.out.mono ?_
  rintro e w2 ⟨rfl, hb2⟩
  have HB2 := Lib.hid (tr HB1.out hb2); clear hb2
  gw
  refine (HLV.out w2 HB2.out).mono ?_
  rintro e wz ⟨rfl, hbz⟩
  have HBZ := Lib.hid (tr HB2.out hbz); clear hbz
  go_wp2
  go_ret
  exact ⟨rfl, HBZ.out⟩
 | true =>
  rw [hfl] at hf
  have HF := Lib.hid hf; clear hf
  obtain ⟨hn, hsz⟩ := fewL_of hfl
  have HFW := Lib.hid (fewL_few hfl)
  clear hfl
  by_cases hs : s.size ≤ 2000
  rotate_left
  ·have q1 : (2000 : Int) < (s.size : Int) := by omega
   have q2 := decide_eq_true q1
   gw
   refine HF.out.mono ?_
   rintro e w2 ⟨rfl, hb2⟩
   have HB2 := Lib.hid (tr HB1.out hb2); clear hb2
   gw
   refine (HLV.out w2 HB2.out).mono ?_
   rintro e wz ⟨rfl, hbz⟩
   have HBZ := Lib.hid (tr HB2.out hbz); clear hbz
   go_wp2
   go_ret
   exact ⟨rfl, HBZ.out⟩
  have q1 : ¬ (2000 : Int) < (s.size : Int) := by omega
  have q2 := decide_eq_false q1
  have hp1 := fun W' (hb : RowKit.Below w.heap.size w W') => mparse_any s W' (HT.out.below hb) (by omega)
  have hp2 := fun W' => rmparse_any s W' (by omega)
  have hpf := parse_few (bl s)
  generalize parseM (bl s) = R at hp1 hp2 hpf
  obtain ⟨k, r⟩ := R
  simp only at hp1 hp2 hpf
  have HP1 := Lib.hid hp1; have HP2 := Lib.hid hp2
  clear hp1 hp2 hs
  have ek : (((k : Nat) : Int) == ((k : Nat) : Int)) = true := by simp
  gw
  refine HF.out.mono ?_
  rintro e w2 ⟨rfl, hb2⟩
  have HB2 := Lib.hid (tr HB1.out hb2); clear hb2
  gw
  refine (HP1.out w2 HB2.out).mono ?_
  rintro e w3 ⟨A3, c3, rfl, ho3, hb3⟩
  have HB3 := Lib.hid (tr HB2.out hb3); clear hb3
  obtain ⟨A3', c3', e3, hr3, -, -⟩ := own_rd_mt ho3
  injection e3 with e1 _ e2
  subst e1; subst e2
  have HR3 := Lib.hid hr3; clear hr3 ho3
  gw
  refine (HP2.out w3).mono ?_
  rintro e w4 ⟨A4, c4, rfl, ho4, hb4⟩
  have HR34 := Lib.hid (HR3.out.below hb4)
  have HB4 := Lib.hid (tr HB3.out hb4); clear hb4
  obtain ⟨A4', c4', e4, hr4, -, -⟩ := own_rd_mt ho4
  injection e4 with e1 _ e2
  subst e1; subst e2
  have HR4 := Lib.hid hr4; clear hr4 ho4 HR3
  have hpr1 := fun W' (hb : RowKit.Below w.heap.size w W') => mprint_any A c l W' (HX.out.below hb) hc HFW.out
  have hpr2 := fun W' (hb : RowKit.Below w.heap.size w W') => rprint_any A c l W' (HX.out.below hb) hc HFW.out
  generalize mkB (printM l) = T at hpr1 hpr2
  have et : (T.toList == T.toList) = true := by simp
  have HQ1 := Lib.hid hpr1; have HQ2 := Lib.hid hpr2
  clear hpr1 hpr2
  gw
  refine (HQ1.out w4 HB4.out).mono ?_
  rintro e w5 ⟨rfl, hb5⟩
  have HR35 := Lib.hid (HR34.out.below hb5); have HR45 := Lib.hid (HR4.out.below hb5)
  have HB5 := Lib.hid (tr HB4.out hb5); clear hb5
  gw
  refine (HQ2.out w5 HB5.out).mono ?_
  rintro e w6 ⟨rfl, hb6⟩
  have HR36 := Lib.hid (HR35.out.below hb6); have HR46 := Lib.hid (HR45.out.below hb6)
  have HB6 := Lib.hid (tr HB5.out hb6); clear hb6
  have hsm := rsameM_any A3 A4 c3 c4 r r w6 HR36.out HR46.out (by omega) (by omega)
  rw [decide_eq_true rfl] at hsm
  have HSM := Lib.hid hsm; clear hsm
  gw
  refine HSM.out.mono ?_
  rintro e w7 ⟨rfl, n, rfl⟩
  go_wp2
  go_ret
  exact ⟨by first | rfl | simp, below_drewN HB6.out n⟩
end

set_option maxRecDepth 100000 in
theorem matchTexts_contract (H : Type) (enc : TypeId × Value → H) (W : World) (base : Nat) (args : Array Value) (ds gs : List (DataW H)) (before : List MemPlace)
  (hval : ∀ (j : Nat) t v, Tryz.f3.params[j]? = some t → args[j]? = some v → Value.okWide Tryz.prog W .any base t v)
  (hW : DataW.Whole enc Tryz.prog Tryz.f3.params.toList Rows.matchTextsSpec.vars false W args.toList ds gs before) (hL : laidMetH Tryz.prog Rows.matchTextsRow.laid W) :
  Calls Tryz.prog 3 args W fun e W' => ∃ v, e = .returned v ∧ Rows.matchTextsSpec.post enc Tryz.prog Tryz.f3 false true false false W args v W' := by
 have hW' := hW
 obtain ⟨p, q, hA0, hV, rfl, hfz, hnd⟩ := hW
 have hA : DataW.TrodAll enc Tryz.prog W 0 (fun _ => true) true Tryz.f3.params.toList args.toList ds p := hA0
 rw [Tryz.params3] at hA hval
 obtain ⟨v0, vs0, d0, ds0, p0, q0, hargs, rfl, rfl, h0, r0⟩ := trodAll_cons hA
 obtain ⟨v1, vs1, d1, ds1, p1, q1, rfl, rfl, rfl, h1, r1⟩ := trodAll_cons r0
 obtain ⟨rfl, rfl, rfl⟩ := trodAll_nil r1
 obtain rfl : args = #[v0, v1] := by cases args; simp_all
 obtain ⟨rfl, rfl⟩ := trodVars_none hV
 obtain ⟨A0, c0, m0, rfl, hm0, hx0, hs0⟩ := open_matchers (hval 0 22 v0 rfl rfl) h0
 obtain ⟨s1, rfl, rfl, rfl, ws1⟩ := open_string Tryz.underlying9 (hval 1 9 v1 rfl rfl) h1
 clear hA0 hA
 unfold maxLen at hm0 hs0
 unfold maxLen at ws1
 refine (mtexts_walk A0 c0 m0 s1 W (tabs hL) hx0 hm0.1).mono fun e W' ⟨he, hg⟩ => ?_
 subst he
 exact ⟨_, rfl, law_end laidOut (by kernel_rfl) (by kernel_rfl) Tryz.underlying4 rfl hW' ⟨rfl, rfl, rfl⟩ hg⟩

theorem matchTexts_met (os : Os) : laidMet Tryz.prog Rows.matchTextsRow.laid ((laidWorld os).forCall (fun _ _ => 0) ⟨#[], #[.slice none 0 0, .string ⟨#[]⟩], []⟩).memory :=
 laid_met os _
theorem matchTexts_reads (os : Os) {H : Type} (enc : TypeId × Value → H) : ∃ places, DataW.whole enc Tryz.prog ((laidWorld os).forCall (fun _ _ => 0) ⟨#[], #[.slice none 0 0, .string ⟨#[]⟩], []⟩).memory Tryz.f3.params.toList Rows.matchTextsSpec.vars false (#[.slice none 0 0, .string ⟨#[]⟩] : Array Value).toList 8 = some ([.nil, .lit (.string [])], [], places) :=
 ⟨[], by kernel_rfl⟩

set_option maxRecDepth 100000 in
theorem matchTexts_lifted (os : Os) (started : os.Started) (H : Type) (enc : TypeId × Value → H) (F : Stop.Interp) :
  ReturnsInHanded {} Tryz.checked os 3 .any ((OpenSpec.ofChange Rows.matchTextsSpec).preRow enc Tryz.prog Tryz.f3 Rows.matchTextsRow.domain false Rows.matchTextsRow.laid) (((OpenSpec.ofChange Rows.matchTextsSpec).at F).post enc Tryz.prog Tryz.f3 false true false false) := by
 obtain ⟨places, hx⟩ := matchTexts_reads os enc
 refine returnsInHanded_of_row (C := Tryz.checked) (s := OpenSpec.ofChange Rows.matchTextsSpec) ownKn started (by kernel_rfl) Tryz.func3
  (witness_row_at (enc := enc) (C := Tryz.checked) false (laidWorld os) #[.slice none 0 0, .string ⟨#[]⟩] rfl (by kernel_rfl) (by kernel_rfl) (by kernel_rfl)
   (OpenSpec.preRow_of_cond 8 hx (by kernel_rfl) (fun k hk => by cases hk) (by kernel_rfl) (matchTexts_met os))) ?_
 intro W base args ds gs before hval hW _ _ _ hL _ _
 exact matchTexts_contract H enc W base args ds gs before hval hW hL

theorem matchTexts_said : Rows.MatchTextsSaid :=
 OpenClaim.holds_of_cond 3 Tryz.f3 rfl rfl rfl rfl rfl rfl rfl ⟨rfl, rfl, rfl, rfl, rfl⟩ rfl rfl rfl rfl rfl (by kernel_rfl) Tryz.func3 (by kernel_rfl)
  (of_decide_eq_true (by kernel_rfl)) (by unfold Func.isWrapper; first | (rw [if_pos (by decide +kernel)]; kernel_rfl) | (rw [if_neg (by decide +kernel)]; exact ⟨rfl, rfl⟩))
  (fun os started H enc _ F => by rw [OpenClaim.pre_eq_preRow]; exact matchTexts_lifted os started H enc F)

theorem matchTexts_plain (f : FuncId) (fn : Func) (hf : Tryz.pinned.checked.prog.funcNamed "manometer/manometerlaw07.MatchTexts" = some f) (hfn : Tryz.pinned.checked.prog.funcs[f]? = some fn) :
  true = Tryz.pinned.checked.prog.looks [] ∧ ∀ (j : Nat) t, fn.params[j]? = some t → Tryz.pinned.checked.prog.wantsStandIn t = false := by
 obtain rfl : f = 3 := Option.some.inj ((show Tryz.prog.funcNamed "manometer/manometerlaw07.MatchTexts" = some 3 by kernel_rfl).symm.trans hf) |>.symm
 obtain rfl : fn = Tryz.f3 := (Option.some.inj (Tryz.func3.symm.trans hfn)).symm
 refine ⟨by kernel_rfl, fun j t ht => ?_⟩
 rw [Tryz.params3] at ht
 have hm : t = 22 ∨ t = 9 := by simpa using Array.mem_of_getElem? ht
 rcases hm with rfl | rfl
 ·exact (show Tryz.prog.wantsStandIn 22 = false by kernel_rfl)
 ·exact (show Tryz.prog.wantsStandIn 9 = false by kernel_rfl)

theorem matchTexts_card : Rows.MatchTextsCardSaid :=
 Claim7.holds_tied_plain_at .later [] _ _ _ _ matchTexts_said (fun _ h => by cases h) (by kernel_rfl) (fun _ h => by cases h) matchTexts_row_tie rfl ⟨rfl, rfl⟩ (by kernel_rfl) rfl matchTexts_plain (by kernel_rfl)
#print axioms matchTexts_card

end Go.Proofs.YtinjdlplbficiaaGreatDoor
