/-
  The plain answers' disk: what a name is; Remove, Lasts, Read.
-/
import Derived.Test.YtnmbjhpecblioaaZfc
import Derived.Test.YtnmbjhpecblioaaDn
import Derived.Test.YtnmbjhpecblioaaJn
namespace Go.Proofs.Ytnmbjhpecblioaa
set_option linter.unusedVariables false
set_option linter.unusedSimpArgs false
open Go.RowKit
section
set_option maxHeartbeats 1600000
set_option maxRecDepth 100000
theorem rname_any (s : ByteArray) (w : World) (hs : s.size ≤ maxLen) : Calls Try.prog 39 #[.string s] w fun e w' => e = .returned (.bool (titleB (bl s))) ∧ w = w' := by
  unfold maxLen at hs
  obtain ⟨T, hT⟩ : ∃ T, T = ((bl s).all fun c => titleC c.toNat) := ⟨_, rfl⟩
  have hb : titleB (bl s) = (decide (1 ≤ s.size) && decide (s.size ≤ 32) && T) := by unfold titleB; rw [bl_len, hT]
  rw [hb]
  have hst : T = (((bl s).drop 0).all fun c => titleC c.toNat) := by rw [hT]; rfl
  have HST := Lib.hid hst
  clear hst hT hb
  go_enter Try.func39, Try.ntmps39
  go_wp2
  go_loopw [7] (fun s7 wr => ∃ k : Nat, s7 = .int .i64 k ∧ k ≤ s.size ∧ wr = w ∧ Aside (T = (((bl s).drop k).all fun c => titleC c.toNat))) (fun s7 _ => s.size - (intOf s7).toNat)
  case atStart => exact ⟨0, rfl, by omega, rfl, HST.out⟩
  case round =>
    obtain ⟨k, rfl, hk, rfl, E⟩ := hrel
    have k2 : (0 : Int) ≤ (k : Int) := by omega
    by_cases hlt : k < s.size
    · have k3 : (k : Int) < (s.size : Int) := by omega
      have hix : ∀ u, (Instr.index 9 (.string s) (.int .i64 (k : Nat))).run Try.prog u = .ok (.int .u8 (byN s k : Nat)) u := fun u => run_index_s u s .i64 k hlt
      have hE := E.out
      rw [drop_byte hlt, List.all_cons, ofNat_toNat (byN_lt s k)] at hE
      have hc := byN_lt s k
      generalize byN s k = c at hix hE hc
      clear E
      by_cases hT : titleC c = true
      · rw [hT, Bool.true_and] at hE
        have HE := Lib.hid hE; clear hE
        rcases title_at.1 hT with ⟨a1, a2⟩ | ⟨a1, a2⟩ | rfl | rfl
        · clear hT
          have b1 : ¬ (c : Int) < 97 := by omega
          have b2 : ¬ (122 : Int) < (c : Int) := by omega
          go_wp2_with fail
          go_roundw
          case rel => exact ⟨k + 1, by go_num, by omega, trivial, (show Aside _ from HE.out)⟩
          case measure => simp [intOf]; omega
        · clear hT
          have b1 : (c : Int) < 97 := by omega
          have b2 : ¬ (57 : Int) < (c : Int) := by omega
          have b3 : ¬ (c : Int) < 48 := by omega
          go_wp2_with fail
          go_roundw
          case rel => exact ⟨k + 1, by go_num, by omega, trivial, (show Aside _ from HE.out)⟩
          case measure => simp [intOf]; omega
        · clear hT
          go_wp2_with fail
          go_roundw
          case rel => exact ⟨k + 1, by go_num, by omega, trivial, (show Aside _ from HE.out)⟩
          case measure => simp [intOf]; omega
        · clear hT
          go_wp2_with fail
          go_roundw
          case rel => exact ⟨k + 1, by go_num, by omega, trivial, (show Aside _ from HE.out)⟩
          case measure => simp [intOf]; omega
      · rw [Bool.eq_false_iff.2 hT, Bool.false_and] at hE
        subst hE
        have hn : ¬ ((97 ≤ c ∧ c ≤ 122) ∨ (48 ≤ c ∧ c ≤ 57) ∨ c = 45 ∨ c = 46) := fun h => hT (title_at.2 h)
        clear hT
        have b4 : ((c : Int) != 45) = true := bne_iff_ne.2 (by omega)
        have b5 : ((c : Int) != 46) = true := bne_iff_ne.2 (by omega)
        by_cases d1 : c < 97
        · have b1 : (c : Int) < 97 := by omega
          by_cases d2 : c < 48
          · have b3 : (c : Int) < 48 := by omega
            go_wp2
            go_ret
            exact ⟨by first | rfl | (rw [Bool.and_false]; rfl), rfl⟩
          · have b3 : ¬ (c : Int) < 48 := by omega
            have b2 : (57 : Int) < (c : Int) := by omega
            go_wp2
            go_ret
            exact ⟨by first | rfl | (rw [Bool.and_false]; rfl), rfl⟩
        · have b1 : ¬ (c : Int) < 97 := by omega
          have b0 : (122 : Int) < (c : Int) := by omega
          have b3 : ¬ (c : Int) < 48 := by omega
          have b2 : (57 : Int) < (c : Int) := by omega
          go_wp2
          go_ret
          exact ⟨by first | rfl | (rw [Bool.and_false]; rfl), rfl⟩
    · obtain rfl : k = s.size := by omega
      have hE := E.out
      rw [← bl_len, List.drop_length, List.all_nil] at hE
      subst hE
      by_cases q1 : 1 ≤ s.size
      · have q1' : (1 : Int) ≤ (s.size : Int) := by omega
        by_cases q2 : s.size ≤ 32
        · have q2' : (s.size : Int) ≤ 32 := by omega
          go_wp2
          go_ret
          exact ⟨by first | rfl | (rw [decide_eq_true q1, decide_eq_true q2]; rfl) | simp_all, rfl⟩
        · have q2' : ¬ (s.size : Int) ≤ 32 := by omega
          go_wp2
          go_ret
          exact ⟨by first | rfl | (rw [decide_eq_true q1, decide_eq_false q2]; rfl) | simp_all, rfl⟩
      · have q1' : ¬ (1 : Int) ≤ (s.size : Int) := by omega
        go_wp2
        go_ret
        exact ⟨by first | rfl | (rw [decide_eq_false q1]; rfl) | simp_all, rfl⟩
variable {w : World} {p room : Nat} {fv : Value} {ys : List RF}
/-- The file of a name, plainly. -/
theorem lookR_none {s : ByteArray} (h : ∀ y ∈ ys, y.nm ≠ s) : lookL (ys.map rval) s = none := by
  unfold lookL
  rw [List.find?_eq_none]
  intro f hf
  obtain ⟨y, hy, rfl⟩ := List.mem_map.1 hf
  rw [Bool.not_eq_true]; exact decide_eq_false (h y hy)
theorem lookR_some {s : ByteArray} (hp : (ys.map rval).Pairwise fun a b => bl a.1 < bl b.1) {k : Nat} {y : RF} (hk : ys[k]? = some y) (hn : y.nm = s) : lookL (ys.map rval) s = some (rval y) := by
  have hm : rval y ∈ ys.map rval := List.mem_map_of_mem (List.mem_of_getElem? hk)
  generalize ys.map rval = L at hp hm
  subst hn
  unfold lookL
  induction L with
  | nil => simp at hm
  | cons f r ih =>
    rw [List.pairwise_cons] at hp
    rw [List.find?_cons]
    rcases List.mem_cons.1 hm with e | e
    · rw [← e]; simp [rval]
    · have := hp.1 _ e
      have hne : ¬ f.1 = y.nm := fun h => by rw [h] at this; exact ltB_irrefl _ this
      simp only [hne, decide_false]
      exact ih hp.2 e
def lastsV : Option Fl → Value
  | none => .tuple #[.int .i64 0, .int .i64 4]
  | some f => .tuple #[.int .i64 (f.2.2 : Nat), .int .i64 0]
def ReadR (o : Option Fl) (e : Ending) (w' : World) : Prop := match o with
  | none => e = .returned (.tuple #[.slice none 0 0, .int .i64 4])
  | some f => ∃ A' c', e = .returned (.tuple #[.slice A' f.2.1.length c', .int .i64 0]) ∧ Rd w' A' (f.2.1.map Bv)
theorem rremove_any (h : RefE w p room fv ys) (s : ByteArray) (hp : (ys.map rval).Pairwise fun a b => bl a.1 < bl b.1) : Calls Try.prog 30 #[.pointer (some ⟨p, 0, none⟩), .string s] w fun e w' =>
    e = .returned (.int .i64 (remD (ys.map rval) s).1) ∧ ∃ ys', ys'.map rval = (remD (ys.map rval) s).2 ∧ RefOut w p room fv ys ys' (fun _ => False) w' := by
  have HA := Lib.hid (rat_any h s); have H := Lib.hid h; have HP := Lib.hid hp
  clear h hp
  go_enter Try.func30, Try.ntmps30
  go_wp2_with fail
  with_reducible refine HA.out.mono ?_
  rintro e w1 ⟨⟨rfl, hn⟩ | ⟨k, y, hk, hn, rfl⟩, hb1⟩
  · have HN := Lib.hid hn; have HB := Lib.hid hb1
    clear hn hb1
    go_wp2
    go_ret
    have hl := lookR_none HN.out
    refine ⟨by unfold remD; rw [hl]; rfl, ys, by unfold remD; rw [hl], fv, H.out.below HB.out, ⟨HB.out.os, HB.out.tape, HB.out.output, HB.out.size, fun k hk _ => HB.out.block k hk⟩, fun k hk => .inl hk⟩
  · have hl := lookR_some HP.out hk hn
    have HL := Lib.hid hl; have HB := Lib.hid hb1
    have HD := Lib.hid (rdrop_any (H.out.below hb1) s)
    clear hn hb1 hk hl HA
    have k0 : ¬ (k : Int) < 0 := by omega
    go_wp2_with fail
    with_reducible refine HD.out.mono ?_
    rintro e w2 ⟨rfl, fv', h1, h2, h3⟩
    have HR := Lib.hid (show RefOut w p room fv ys (dropR ys s) (fun _ => False) w2 from ⟨fv', h1, (show Mv (fun k => k = p) w w1 from ⟨HB.out.os, HB.out.tape, HB.out.output, HB.out.size, fun k hk _ => HB.out.block k hk⟩).trans h2 (fun _ _ h => h), fun k hk => by
      rcases h3 k hk with hf | hf | hf
      · exact .inl hf
      · exact .inr (.inl (Nat.le_trans HB.out.size hf))
      · exact hf.elim⟩)
    clear h1 h2 h3 HD
    go_wp2
    go_ret
    refine ⟨by unfold remD; rw [HL.out]; rfl, dropR ys s, by unfold remD; rw [HL.out, drop_rval], HR.out⟩
theorem rlasts_any (h : RefE w p room fv ys) (s : ByteArray) (hp : (ys.map rval).Pairwise fun a b => bl a.1 < bl b.1) : Calls Try.prog 17 #[.pointer (some ⟨p, 0, none⟩), .string s] w fun e w' =>
    e = .returned (lastsV (lookL (ys.map rval) s)) ∧ Below w.heap.size w w' := by
  have HA := Lib.hid (rat_any h s); have H := Lib.hid h; have HP := Lib.hid hp
  clear h hp
  go_enter Try.func17, Try.ntmps17
  go_wp2_with fail
  with_reducible refine HA.out.mono ?_
  rintro e w1 ⟨⟨rfl, hn⟩ | ⟨k, y, hk, hn, rfl⟩, hb1⟩
  · have HB := Lib.hid hb1
    have HL := Lib.hid (lookR_none hn)
    clear hn hb1
    go_wp2
    go_ret2
    exact ⟨by first | rfl | (rw [HL.out]; rfl), HB.out⟩
  · have HL := Lib.hid (lookR_some HP.out hk hn)
    have HB := Lib.hid hb1
    have h1 := H.out.below hb1
    have c0 := cell_blk h1.box 0; have c1 := cell_blk h1.box 1
    simp only [List.getElem?_toArray, List.getElem?_cons_succ, List.getElem?_cons_zero] at c0 c1
    obtain ⟨A, c, rfl, hr, hc1, hc2⟩ := own_rd_f h1.row
    obtain ⟨b, off, rfl, hcl⟩ := hr.flat fcells_len (by decide) hk
    have d2 := hcl 2 _ rfl
    have hkl : k < ys.length := (List.getElem?_eq_some_iff.1 hk).1
    have k0 : ¬ (k : Int) < 0 := by omega
    have k00 : (0 : Int) ≤ (k : Int) := by omega
    have k1 : (k : Int) < (ys.length : Int) := by omega
    have k2 : (k : Int) ≤ (c : Int) := by omega
    clear hn hb1 hk HA h1 hr hcl
    go_wp2
    go_ret2
    exact ⟨by first | rfl | (rw [HL.out]; rfl), HB.out⟩
theorem rread_any (h : RefE w p room fv ys) (s : ByteArray) (hp : (ys.map rval).Pairwise fun a b => bl a.1 < bl b.1) : Calls Try.prog 15 #[.pointer (some ⟨p, 0, none⟩), .string s] w fun e w' =>
    ReadR (lookL (ys.map rval) s) e w' ∧ Below w.heap.size w w' := by
  have HA := Lib.hid (rat_any h s); have H := Lib.hid h; have HP := Lib.hid hp
  clear h hp
  go_enter Try.func15, Try.ntmps15
  go_wp2_with fail
  with_reducible refine HA.out.mono ?_
  rintro e w1 ⟨⟨rfl, hn⟩ | ⟨k, y, hk, hn, rfl⟩, hb1⟩
  · have HB := Lib.hid hb1
    have HL := Lib.hid (lookR_none hn)
    clear hn hb1
    go_wp2
    go_ret2
    rw [HL.out]
    exact ⟨rfl, HB.out⟩
  · have HL := Lib.hid (lookR_some HP.out hk hn)
    have HB := Lib.hid hb1
    have h1 := H.out.below hb1
    have c0 := cell_blk h1.box 0; have c1 := cell_blk h1.box 1
    simp only [List.getElem?_toArray, List.getElem?_cons_succ, List.getElem?_cons_zero] at c0 c1
    have hyb := h1.at_ y (List.mem_of_getElem? hk)
    have hlen : y.bs.length ≤ 16777216 := by
      have h2 := List.getElem?_eq_some_iff.1 hk
      have := lenL_take (L := ys.map rval) (k := k) (f := rval y) (by rw [List.getElem?_map, hk]; rfl)
      have h3 := lenL_take_le (ys.map rval) (k + 1)
      have h4 : (rval y).2.1.length = y.bs.length := rfl
      have := h1.fits.1; have := h1.fits.2.1
      omega
    obtain ⟨A, c, rfl, hr, hc1, hc2⟩ := own_rd_f h1.row
    obtain ⟨b, off, rfl, hcl⟩ := hr.flat fcells_len (by decide) hk
    have d1 := hcl 1 _ rfl
    obtain ⟨Ay, cy, hyv, hyr, -, -⟩ := hyb.rd
    rw [hyv] at d1
    have HJ := Lib.hid (join_one w1 Ay cy y.bs hyr (by omega))
    have hkl : k < ys.length := (List.getElem?_eq_some_iff.1 hk).1
    have k0 : ¬ (k : Int) < 0 := by omega
    have k00 : (0 : Int) ≤ (k : Int) := by omega
    have k1 : (k : Int) < (ys.length : Int) := by omega
    have k2 : (k : Int) ≤ (c : Int) := by omega
    clear hn hb1 hk HA h1 hr hcl hyb hyv hyr
    go_wp2_with (first
      | (go_at_call 24; refine HJ.out.mono ?_; rintro e w2 ⟨v, rfl, ho, hb2⟩; have HO := Lib.hid ho; have HB2 := Lib.hid hb2; clear ho hb2)
      | fail)
    go_ret2
    rw [HL.out]
    obtain ⟨A2, c2, e2, hr2, -, -, -⟩ := own_rd HO.out
    subst e2
    exact ⟨⟨A2, c2, rfl, hr2⟩, HB.out.trans (HB2.out.mono HB.out.size)⟩
end
end Go.Proofs.Ytnmbjhpecblioaa
