/-
  The label that a text begins with: the plain answers' own.
-/
import Derived.Test.YtpdbpgebgjgbkaaDoorRw
import Derived.Test.YtpdbpgebgjgbkaaDoorRu
namespace Go.Proofs.YtpdbpgebgjgbkaaDoor
set_option linter.unusedVariables false
set_option linter.unusedSimpArgs false
open Go.RowKit
def pairT (o : Option (Lb × Bs)) : Value := match o with
  | none => .tuple #[.agg #[.string ⟨#[]⟩, .string ⟨#[]⟩], .string ⟨#[]⟩, .bool false]
  | some (x, r) => .tuple #[.agg #[.string x.1, .string x.2], .string (mkB (bareP r)), .bool true]
theorem box_facts' {w w1 : World} {x y : Value} {n : Nat} (hb : w1 = (w.alloc (.cells #[x, y] 51)).drewN n) :
    RowKit.Below (w.alloc (.cells #[x, y] 51)).heap.size (w.alloc (.cells #[x, y] 51)) w1 := by
  subst hb; exact below_drewN (RowKit.Below.refl _ _) n
theorem extract_zero (s : ByteArray) : s.extract 0 0 = ⟨#[]⟩ := by rw [extract_head]; rfl
theorem first_of (s : Bs) (n : Nat) (hn : n = wordN s) : firstP s = match markP 61 (bareP (s.drop n)) with
  | none => none
  | some r => if n = 0 then none else if (unqP r).2.2 ≠ 0 then none else some ((mkB (s.take n), mkB (unqP r).1), r.drop (unqP r).2.1) := by
  subst hn; rfl
section
set_option maxHeartbeats 1600000
set_option maxRecDepth 100000
theorem pair_any (s : ByteArray) (w : World) (hl : s.size ≤ 1000000) : Calls Tryd.prog 62 #[.string s] w fun e w' => e = .returned (pairT (firstP (bl s))) ∧ Below w.heap.size w w' := by
  obtain ⟨n, hn⟩ : ∃ n, n = wordN (bl s) := ⟨_, rfl⟩
  have hns : n ≤ s.size := by rw [hn, ← bl_len]; exact wordN_le _
  have hnb := fun W => rword_any s W hl
  rw [← hn] at hnb
  obtain ⟨F, hF⟩ : ∃ F, F = firstP (bl s) := ⟨_, rfl⟩
  rw [← hF]
  rw [first_of _ _ hn] at hF
  have hba := fun W => rbare_any (s.extract n s.size) W (by rw [tail_size]; omega)
  rw [bl_tail] at hba
  obtain ⟨t, ht⟩ : ∃ t, t = mkB (bareP ((bl s).drop n)) := ⟨_, rfl⟩
  have htb : bareP ((bl s).drop n) = bl t := by rw [ht, bl_mk]
  have hts : t.size ≤ s.size := by rw [ht, mkB_size]; refine Nat.le_trans (bareP_le _) ?_; rw [List.length_drop, bl_len]; omega
  simp only [← ht] at hba
  rw [htb] at hF
  clear htb ht
  have hhead := extract_head s n
  have hempty : n = 0 → s.extract 0 n = ⟨#[]⟩ := fun h => by subst h; exact extract_zero s
  have hfull : n ≠ 0 → (s.extract 0 n).size ≠ 0 := fun h => by rw [hhead, mkB_size, List.length_take, bl_len]; omega
  rw [← hhead] at hF
  generalize s.extract 0 n = na at hnb hF hempty hfull
  generalize s.extract n s.size = ra at hnb hba
  have HWD := Lib.hid hnb; have HBA := Lib.hid hba
  clear hnb hba hhead hn
  have hbx := RowKit.Below.refl (w.alloc (.cells #[.string ⟨#[]⟩, .string ⟨#[]⟩] 51)).heap.size (w.alloc (.cells #[.string ⟨#[]⟩, .string ⟨#[]⟩] 51))
  have HBX := Lib.hid hbx; clear hbx
  by_cases hz : n = 0
  · have hr : F = none := by rw [hF]; cases markP 61 (bl t) <;> simp [hz]
    subst hr
    obtain rfl := hempty hz
    clear hF hempty hfull hz
    unfold pairT
    simp only
    go_enter Tryd.func62, Tryd.ntmps62
    go_wp2_with fail
    refine (HWD.out _).mono ?_
    rintro e w1 ⟨rfl, m1, hm1⟩
    have hb := box_facts' hm1
    obtain ⟨d0, d1, f0, f1⟩ := box_facts hb
    have HB1 := Lib.hid hb; clear hb hm1
    go_wp2_with fail
    refine (HBA.out _).mono ?_
    rintro e w2 ⟨rfl, rfl⟩
    go_wp2
    obtain ⟨r1, r2⟩ := box_set (x' := .string ⟨#[]⟩) (y' := .string ⟨#[]⟩) HB1.out
    exact post_lb3 rfl _ _ rfl r1 rfl rfl ⟨rfl, r2⟩
  · obtain ⟨e1, e2⟩ := ne_empty (hfull hz)
    clear hempty hfull
    by_cases htz : t.size = 0
    · obtain rfl := size_zero htz
      have hr : F = none := hF
      subst hr
      clear hF htz
      unfold pairT
      simp only
      go_enter Tryd.func62, Tryd.ntmps62
      go_wp2_with fail
      refine (HWD.out _).mono ?_
      rintro e w1 ⟨rfl, m1, hm1⟩
      have hb := box_facts' hm1
      obtain ⟨d0, d1, f0, f1⟩ := box_facts hb
      have HB1 := Lib.hid hb; clear hb hm1
      go_wp2_with fail
      refine (HBA.out _).mono ?_
      rintro e w2 ⟨rfl, rfl⟩
      go_wp2
      obtain ⟨r1, r2⟩ := box_set (x' := .string ⟨#[]⟩) (y' := .string ⟨#[]⟩) HB1.out
      exact post_lb3 rfl _ _ rfl r1 rfl rfl ⟨rfl, r2⟩
    · obtain ⟨e3, e4⟩ := ne_empty htz
      have ht0 : 0 < t.size := by omega
      have hix : ∀ u, (Instr.index 9 (.string t) (.int .i64 0)).run Tryd.prog u = .ok (.int .u8 (byN t 0 : Nat)) u := fun u => run_index_s u t .i64 0 ht0
      have hd := drop_byte ht0
      rw [List.drop_zero] at hd
      have hc := byN_lt t 0
      rw [hd, markP_cons] at hF
      clear hd
      rw [Nat.zero_add, ← bl_tail] at hF
      generalize byN t 0 = c at hix hc hF
      by_cases h : c = 61
      · subst h
        rw [show UInt8.ofNat 61 = 61 from rfl, if_pos rfl] at hF
        simp only [if_neg hz] at hF
        have k2 : (1 : Int) ≤ (t.size : Int) := by omega
        have hts1 := tail_size t 1
        have hb2 := fun W => rbare_any (t.extract 1 t.size) W (by rw [hts1]; omega)
        have hr2 : (bareP (bl (t.extract 1 t.size))).length ≤ t.size - 1 := by rw [← hts1, ← bl_len]; exact bareP_le _
        clear hts1
        obtain ⟨r, hr⟩ : ∃ r, r = mkB (bareP (bl (t.extract 1 t.size))) := ⟨_, rfl⟩
        have hrb : bareP (bl (t.extract 1 t.size)) = bl r := by rw [hr, bl_mk]
        simp only [← hr] at hb2
        rw [hrb] at hF hr2
        rw [bl_len] at hr2
        clear hr hrb
        have hu := fun W => runq_any r W (by omega)
        have hle := unqP_le (s := bl r)
        generalize hU : unqP (bl r) = U at hu hF hle
        obtain ⟨v, m, e⟩ := U
        simp only at hu hF hle
        have HB2 := Lib.hid hb2; clear hb2
        have HU := Lib.hid hu; clear hu hU
        have hrs : (bl r).length = r.size := bl_len r
        rw [hrs] at hle
        by_cases he : e = 0
        · subst he
          simp only [ne_eq, not_true_eq_false, if_false] at hF
          subst hF
          have hm2 := hle rfl
          have m0 : (0 : Int) ≤ (m : Int) := by omega
          have m1 : (m : Int) ≤ (r.size : Int) := by omega
          have hb3 := fun W => rbare_any (r.extract m r.size) W (by rw [tail_size]; omega)
          rw [bl_tail] at hb3
          unfold pairT
          simp only
          generalize mkB (bareP ((bl r).drop m)) = rest at hb3 ⊢
          generalize mkB v = vb at HU ⊢
          have HB3 := Lib.hid hb3; clear hb3 hle hrs
          go_enter Tryd.func62, Tryd.ntmps62
          go_wp2_with fail
          refine (HWD.out _).mono ?_
          rintro e w1 ⟨rfl, m1, hm1⟩
          have hb := box_facts' hm1
          obtain ⟨d0, d1, f0, f1⟩ := box_facts hb
          have HB1 := Lib.hid hb; clear hb hm1
          go_wp2_with fail
          refine (HBA.out _).mono ?_
          rintro e w2 ⟨rfl, rfl⟩
          go_wp2_with fail
          refine (HB2.out _).mono ?_
          rintro e w3 ⟨rfl, rfl⟩
          go_wp2_with fail
          refine (HU.out _).mono ?_
          rintro e w4 ⟨rfl, hb4⟩
          have HB4 := Lib.hid (HB1.out.trans (hb4.mono HB1.out.size)); clear hb4
          clear d0 d1 f0 f1
          obtain ⟨d0, d1, f0, f1⟩ := box_facts HB4.out
          go_wp2_with fail
          refine (HB3.out _).mono ?_
          rintro e w5 ⟨rfl, rfl⟩
          go_wp2
          obtain ⟨r1, r2⟩ := box_set (x' := .string na) (y' := .string vb) HB4.out
          exact post_lb3 rfl _ _ rfl r1 rfl rfl ⟨rfl, r2⟩
        · have hF : F = none := by rw [hF]; simp [he]
          subst hF
          unfold pairT
          simp only
          generalize mkB v = vb at HU
          have g1 : ((e : Int) != 0) = true := by rw [bne_iff_ne]; omega
          clear hle hrs
          go_enter Tryd.func62, Tryd.ntmps62
          go_wp2_with fail
          refine (HWD.out _).mono ?_
          rintro e w1 ⟨rfl, m1, hm1⟩
          have hb := box_facts' hm1
          obtain ⟨d0, d1, f0, f1⟩ := box_facts hb
          have HB1 := Lib.hid hb; clear hb hm1
          go_wp2_with fail
          refine (HBA.out _).mono ?_
          rintro e w2 ⟨rfl, rfl⟩
          go_wp2_with fail
          refine (HB2.out _).mono ?_
          rintro e w3 ⟨rfl, rfl⟩
          go_wp2_with fail
          refine (HU.out _).mono ?_
          rintro e w4 ⟨rfl, hb4⟩
          have HB4 := Lib.hid (HB1.out.trans (hb4.mono HB1.out.size)); clear hb4
          clear d0 d1 f0 f1
          obtain ⟨d0, d1, f0, f1⟩ := box_facts HB4.out
          go_wp2
          obtain ⟨r1, r2⟩ := box_set (x' := .string ⟨#[]⟩) (y' := .string ⟨#[]⟩) HB4.out
          exact post_lb3 rfl _ _ rfl r1 rfl rfl ⟨rfl, r2⟩
      · have g1 : ((c : Int) == 61) = false := beq_eq_false_iff_ne.2 (by omega)
        have hr : F = none := by
          rw [hF, if_neg]
          intro e
          have := congrArg UInt8.toNat e
          rw [ofNat_toNat hc] at this
          exact h this
        subst hr
        clear hF
        unfold pairT
        simp only
        go_enter Tryd.func62, Tryd.ntmps62
        go_wp2_with fail
        refine (HWD.out _).mono ?_
        rintro e w1 ⟨rfl, m1, hm1⟩
        have hb := box_facts' hm1
        obtain ⟨d0, d1, f0, f1⟩ := box_facts hb
        have HB1 := Lib.hid hb; clear hb hm1
        go_wp2_with fail
        refine (HBA.out _).mono ?_
        rintro e w2 ⟨rfl, rfl⟩
        go_wp2
        obtain ⟨r1, r2⟩ := box_set (x' := .string ⟨#[]⟩) (y' := .string ⟨#[]⟩) HB1.out
        exact post_lb3 rfl _ _ rfl r1 rfl rfl ⟨rfl, r2⟩
end
end Go.Proofs.YtpdbpgebgjgbkaaDoor
