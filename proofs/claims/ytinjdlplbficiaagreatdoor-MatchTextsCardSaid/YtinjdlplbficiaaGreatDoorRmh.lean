/-
  The plain answers: the matchers that a text begins with: the loop within the braces.
-/
import Derived.Test.YtinjdlplbficiaaGreatDoorRmo
namespace Go.Proofs.YtinjdlplbficiaaGreatDoor
set_option linter.unusedVariables false
set_option linter.unusedSimpArgs false
open Go.RowKit
theorem bodyR_nil (k : Nat) (l : List Mt') : bodyR (k + 1) [] l = none := by unfold bodyR; rw [if_pos rfl]
theorem bodyR_close (k : Nat) (r : Bs) (l : List Mt') : bodyR (k + 1) (125 :: r) l = some (l, r) := by unfold bodyR; simp
theorem bodyR_step {k : Nat} {s : Bs} {l : List Mt'} (h : s ≠ []) (h2 : s.head? ≠ some 125) : bodyR (k + 1) s l = match oneR s with
    | none => none
    | some (m, r) => if r.head? = some 44 then bodyR k (bareP r.tail) (l ++ [m]) else if r.head? = some 125 then bodyR k r (l ++ [m]) else none := by
  rw [bodyR, if_neg h, if_neg h2]
  cases oneR s with
  | none => rfl
  | some q => rfl
theorem byte_neH {c n : Nat} (hc : c < 256) (hn : n < 256) (h : ¬ c = n) : UInt8.ofNat c ≠ UInt8.ofNat n := fun e => h (by
  have := congrArg UInt8.toNat e; rwa [ofNat_toNat hc, ofNat_toNat hn] at this)
theorem bareName_lit : bareName = ⟨#[95, 95, 110, 97, 109, 101, 95, 95]⟩ := by first | rfl | decide +kernel
def HdOut (H : Option (List Mt' × Bs)) (w : World) (e : Ending) (w' : World) : Prop :=
  ∃ (v : Value) (x : ByteArray), e = .returned (.tuple #[v, .string x, .bool H.isSome]) ∧ (∀ l r, H = some (l, r) → x = mkB r ∧ w'.ownsRow w.heap.size 37 3 v l.length (mcells l)) ∧ RowKit.Below w.heap.size w w'
theorem mkB_blH (s : ByteArray) : mkB (bl s) = s := by cases s; rfl
section
set_option maxHeartbeats 1600000
set_option maxRecDepth 100000
theorem rhead_any (s : ByteArray) (w : World) (hl : s.size ≤ 6000) : Calls Tryz.prog 14 #[.string s] w (HdOut (headR (bl s)) w) := by
  obtain ⟨n, hn⟩ : ∃ n, n = wordN (bl s) := ⟨_, rfl⟩
  have hns : n ≤ s.size := by rw [hn, ← bl_len]; exact wordN_le _
  have hnb := fun W => rword_any s W (by omega)
  obtain ⟨H, hH⟩ : ∃ H, H = headR (bl s) := ⟨_, rfl⟩
  rw [← hH]
  unfold HdOut
  unfold headR at hH
  rw [← hn] at hnb hH
  have hba := fun W => rbare_any (s.extract n s.size) W (by rw [tail_size]; omega)
  rw [bl_tail] at hba
  obtain ⟨t, ht⟩ : ∃ t, t = mkB (bareP ((bl s).drop n)) := ⟨_, rfl⟩
  have htb : bareP ((bl s).drop n) = bl t := by rw [ht, bl_mk]
  have hts : t.size ≤ s.size := by rw [ht, mkB_size]; refine Nat.le_trans (bareP_le _) ?_; rw [List.length_drop, bl_len]; omega
  simp only [← ht] at hba
  rw [htb] at hH
  clear htb ht
  have hhead := extract_head s n
  have hempty : n = 0 → s.extract 0 n = ⟨#[]⟩ := fun h => by subst h; rw [extract_head]; rfl
  have hfull : n ≠ 0 → (s.extract 0 n).size ≠ 0 := fun h => by rw [hhead, mkB_size, List.length_take, bl_len]; omega
  have hfst : n ≠ 0 → (bl s).headD 0 = (bl (s.extract 0 n)).headD 0 := fun h => by
    rw [hhead, bl_mk]
    obtain ⟨m, rfl⟩ : ∃ m, n = m + 1 := ⟨n - 1, by omega⟩
    cases bl s <;> rfl
  have hra : mkB ((bl s).drop n) = s.extract n s.size := (extract_tail s n).symm
  rw [← hhead] at hH
  rw [show (bl s).drop n = bl (mkB ((bl s).drop n)) by rw [bl_mk], hra] at hH
  clear hra hhead
  generalize s.extract 0 n = na at hnb hH hempty hfull hfst
  generalize s.extract n s.size = ra at hnb hba hH
  have HWD := Lib.hid hnb; have HBA := Lib.hid hba
  clear hnb hba hn
  have HOE := Lib.hid (own_emptyM w)
  have HBE0 := Lib.hid (show RowKit.Below w.heap.size w (w.alloc (.cells #[] 37)) from (RowKit.Below.refl _ w).alloc (Nat.le_refl _) _)
  by_cases hz : n = 0
  · obtain rfl := hempty hz
    subst hz
    clear hempty hfull hfst
    simp only [ne_eq, not_true_eq_false, false_and, if_false] at hH
    by_cases htz : t.size = 0
    · obtain rfl := size_zero htz
      have hE : H = none := hH
      subst hE
      clear hH htz
      go_enter Tryz.func14, Tryz.ntmps14
      go_wp2_with fail
      refine (HWD.out _).mono ?_
      rintro e w1 ⟨rfl, m1, rfl⟩
      have HO0 := Lib.hid (own_below_mt HOE.out (below_drewN (RowKit.Below.refl _ _) m1))
      have HB0 := Lib.hid (below_drewN HBE0.out m1)
      have HBW1 := HB0; have HO1 := HO0
      clear HO0 HB0
      go_wp2_with fail
      refine (HBA.out _).mono ?_
      rintro e w2 ⟨rfl, rfl⟩
      go_wp2
      go_ret3
      exact ⟨_, _, rfl, fun _ _ h => by (cases h), HBW1.out⟩
    · obtain ⟨e3, e4⟩ := ne_empty htz
      have ht0 : 0 < t.size := by omega
      have hix : ∀ u, (Instr.index 9 (.string t) (.int .i64 0)).run Tryz.prog u = .ok (.int .u8 (byN t 0 : Nat)) u := fun u => run_index_s u t .i64 0 ht0
      have hd := drop_byte ht0
      rw [List.drop_zero, Nat.zero_add, ← bl_tail] at hd
      have hc := byN_lt t 0
      have hhd : (bl t).head? = some (UInt8.ofNat (byN t 0)) := by rw [hd]; rfl
      have htl : (bl t).tail = bl (t.extract 1 t.size) := by rw [bl_tail, List.drop_one]
      rw [hhd, htl] at hH
      clear hd hhd htl
      generalize byN t 0 = c at hix hc hH
      by_cases h : c = 123
      · subst h
        rw [show UInt8.ofNat 123 = 123 from rfl, if_pos rfl] at hH
        have k2 : (1 : Int) ≤ (t.size : Int) := by omega
        have hts1 := tail_size t 1
        have hb2 := fun W => rbare_any (t.extract 1 t.size) W (by rw [hts1]; omega)
        have hr2 : (bareP (bl (t.extract 1 t.size))).length ≤ t.size - 1 := by rw [← hts1, ← bl_len]; exact bareP_le _
        clear hts1
        obtain ⟨u, hu⟩ : ∃ u, u = mkB (bareP (bl (t.extract 1 t.size))) := ⟨_, rfl⟩
        have hub : bareP (bl (t.extract 1 t.size)) = bl u := by rw [hu, bl_mk]
        simp only [← hu] at hb2
        rw [hub] at hH hr2
        rw [bl_len] at hr2 hH
        clear hu hub
        have HB2 := Lib.hid hb2; clear hb2
        have HL := Lib.hid hH; clear hH
        go_enter Tryz.func14, Tryz.ntmps14
        go_wp2_with fail
        refine (HWD.out _).mono ?_
        rintro e w1 ⟨rfl, m1, rfl⟩
        have HO0 := Lib.hid (own_below_mt HOE.out (below_drewN (RowKit.Below.refl _ _) m1))
        have HB0 := Lib.hid (below_drewN HBE0.out m1)
        have HBW1 := HB0; have HO1 := HO0
        clear HO0 HB0
        go_wp2_with fail
        refine (HBA.out _).mono ?_
        rintro e w2 ⟨rfl, rfl⟩
        go_wp2_with fail
        refine (HB2.out _).mono ?_
        rintro e w3 ⟨rfl, rfl⟩
        go_wp2
        clear e3 e4 hix
        go_loopw [0, 5] (fun s0 s5 wr => ∃ (v : ByteArray) (acc : List Mt') (k : Nat), s0 = .string v ∧ v.size < k ∧ acc.length + v.size ≤ s.size + 1 ∧ Aside (wr.ownsRow w.heap.size 37 3 s5 acc.length (mcells acc)) ∧ Aside (RowKit.Below w.heap.size w wr) ∧ Aside (H = bodyR k (bl v) acc)) (fun s0 _ _ => szV s0)
        case atStart => exact ⟨u, [], s.size + 1, rfl, by omega, by simp; omega, (show Aside _ from HO1.out), (show Aside _ from HBW1.out), (show Aside _ from HL.out)⟩
        case round =>
          clear HL HO1 HBW1
          obtain ⟨v, acc, k, rfl, hvk, hav, OW, BW, LE⟩ := hrel
          obtain ⟨k, rfl⟩ : ∃ k', k = k' + 1 := ⟨k - 1, by omega⟩
          obtain ⟨A6, c6, hv6, hrd6, -, -⟩ := own_rd_mt OW.out
          subst hv6
          clear hrd6
          by_cases hvz : v.size = 0
          · obtain rfl := size_zero hvz
            have hr : H = none := LE.out.trans (bodyR_nil k acc)
            subst hr
            clear hvz hvk hav LE
            go_wp2
            go_ret3
            exact ⟨_, _, rfl, fun _ _ h => by (cases h), BW.out⟩
          · obtain ⟨e1, e2⟩ := ne_empty hvz
            have hv0 : 0 < v.size := by omega
            have k2 : (1 : Int) ≤ (v.size : Int) := by omega
            have hix : ∀ u, (Instr.index 9 (.string v) (.int .i64 0)).run Tryz.prog u = .ok (.int .u8 (byN v 0 : Nat)) u := fun u => run_index_s u v .i64 0 hv0
            have hd := drop_byte hv0
            rw [List.drop_zero, Nat.zero_add, ← bl_tail] at hd
            have hc := byN_lt v 0
            have hE := LE.out
            generalize byN v 0 = c at hix hc hd
            by_cases h1 : c = 125
            · subst h1
              rw [hd, show UInt8.ofNat 125 = 125 from rfl, bodyR_close] at hE
              clear hd
              rw [← bl_mk (bl (v.extract 1 v.size))] at hE
              have hmb : mkB (bl (v.extract 1 v.size)) = v.extract 1 v.size := by rw [bl_tail, extract_tail]
              subst hE
              clear LE
              go_wp2_with fail
              go_quiet (fail)
              go_wp2
              go_ret3
              exact ⟨_, _, rfl, fun _ _ h => by (injection h with h; injection h with h1 h2; subst h1; subst h2; exact ⟨by rw [bl_mk, hmb], by first | exact OW.out | exact own_below_mt OW.out (below_drewN (RowKit.Below.refl _ _) _)⟩), by first | exact BW.out | exact below_drewN BW.out _⟩
            · have g1 : ((c : Int) == 125) = false := beq_eq_false_iff_ne.2 (by omega)
              have hne : UInt8.ofNat c ≠ 125 := byte_neH (n := 125) hc (by omega) h1
              have hpa := fun W => rone_any v W (by omega)
              rw [bodyR_step (by rw [hd]; simp) (by rw [hd]; simp; exact hne)] at hE
              clear hd hne
              cases hF : oneR (bl v) with
              | none =>
                rw [hF] at hpa hE
                simp only at hE
                subst hE
                unfold oneRT at hpa
                simp only at hpa
                have HPA := Lib.hid hpa
                clear hpa LE
                go_wp2_with fail
                refine (HPA.out _).mono ?_
                rintro e w3 ⟨rfl, hb⟩
                have HB3 := Lib.hid ((BW.out.trans (hb.mono BW.out.size)).alloc (Nat.le_trans BW.out.size hb.size) (.cells #[.int .i64 0, .string ⟨#[]⟩, .string ⟨#[]⟩] 37)); clear hb
                go_wp2
                go_ret3
                exact ⟨_, _, rfl, fun _ _ h => by (cases h), HB3.out⟩
              | some p =>
                obtain ⟨x, q⟩ := p
                have hlt := oneR_lt hF
                rw [bl_len] at hlt
                rw [hF] at hpa hE
                simp only at hE
                unfold oneRT at hpa
                simp only at hpa
                obtain ⟨x1, x2, x3⟩ := x
                simp only at hpa
                obtain ⟨z, hzz⟩ : ∃ z, z = mkB q := ⟨_, rfl⟩
                have hzb : q = bl z := by rw [hzz, bl_mk]
                have hzl : z.size < v.size := by rw [hzz, mkB_size]; exact hlt
                simp only [← hzz] at hpa
                rw [hzb] at hE
                have HPA := Lib.hid hpa
                clear hpa hzz hzb hF hlt LE
                have happ : ∀ w2 : World, RowKit.Below wr.heap.size wr w2 → (w2.alloc (.cells #[.int .i64 x1, .string x2, .string x3] 37)).ownsRow w.heap.size 37 3 (.slice A6 acc.length c6) acc.length (mcells acc) ∧ RowKit.Below w.heap.size w (w2.alloc (.cells #[.int .i64 x1, .string x2, .string x3] 37)) ∧ w.heap.size ≤ w2.heap.size + 1 := fun w2 hb =>
                  ⟨(own_below_mt OW.out hb).alloc _, (BW.out.trans (hb.mono BW.out.size)).alloc (Nat.le_trans BW.out.size hb.size) _, by have := hb.size; have := BW.out.size; omega⟩
                have HAPP := Lib.hid happ; clear happ
                by_cases hzz : z.size = 0
                · obtain rfl := size_zero hzz
                  have hE : H = none := hE
                  subst hE
                  clear hzz hzl
                  go_wp2_with fail
                  refine (HPA.out _).mono ?_
                  rintro e w2 ⟨rfl, hb⟩
                  obtain ⟨hOW2, hBW2, hs2⟩ := HAPP.out w2 hb
                  have HBW2 := Lib.hid hBW2; clear hBW2 hb
                  have HOW2 := Lib.hid hOW2; clear hOW2
                  go_wp2
                  go_ret3
                  exact ⟨_, _, rfl, fun _ _ h => by (cases h), HBW2.out⟩
                · obtain ⟨e5, e6⟩ := ne_empty hzz
                  have hz0 : 0 < z.size := by omega
                  have k3 : (1 : Int) ≤ (z.size : Int) := by omega
                  have hiz : ∀ u, (Instr.index 9 (.string z) (.int .i64 0)).run Tryz.prog u = .ok (.int .u8 (byN z 0 : Nat)) u := fun u => run_index_s u z .i64 0 hz0
                  have hdz := drop_byte hz0
                  rw [List.drop_zero, Nat.zero_add, ← bl_tail] at hdz
                  have hcz := byN_lt z 0
                  have hhd : (bl z).head? = some (UInt8.ofNat (byN z 0)) := by rw [hdz]; rfl
                  have htl : (bl z).tail = bl (z.extract 1 z.size) := by rw [bl_tail, List.drop_one]
                  rw [hhd, htl] at hE
                  clear hdz hhd htl
                  generalize byN z 0 = d at hiz hcz hE
                  by_cases h4 : d = 44
                  · subst h4
                    rw [show UInt8.ofNat 44 = 44 from rfl, if_pos rfl] at hE
                    have hts1 := tail_size z 1
                    have hb3 := fun W => rbare_any (z.extract 1 z.size) W (by rw [hts1]; omega)
                    have hr2 : (bareP (bl (z.extract 1 z.size))).length ≤ z.size - 1 := by rw [← hts1, ← bl_len]; exact bareP_le _
                    clear hts1
                    obtain ⟨y, hy⟩ : ∃ y, y = mkB (bareP (bl (z.extract 1 z.size))) := ⟨_, rfl⟩
                    have hyb : bareP (bl (z.extract 1 z.size)) = bl y := by rw [hy, bl_mk]
                    simp only [← hy] at hb3
                    rw [hyb] at hE hr2
                    rw [bl_len] at hr2
                    have HBE := Lib.hid hb3; have HE := Lib.hid hE
                    clear hb3 hE hy hyb
                    go_wp2_with fail
                    refine (HPA.out _).mono ?_
                    rintro e w2 ⟨rfl, hb⟩
                    obtain ⟨hOW2, hBW2, hs2⟩ := HAPP.out w2 hb
                    have HBW2 := Lib.hid hBW2; clear hBW2 hb
                    have HOW2 := Lib.hid hOW2; clear hOW2
                    go_wp2_with (first
                      | (refine wpList_append_mt rfl (.tmp 78) (.tmp 80) rfl rfl w.heap.size _ acc rfl (HOW2.out.alloc _) _ 1 [(x1, x2, x3)] rfl (by have := rd_row' (w2.alloc (.cells #[.int .i64 x1, .string x2, .string x3] 37)) (mcells [(x1, x2, x3)]) 37; rwa [World.size_alloc] at this) (by simp; omega) (by simp; omega) ?_; intro v3 w3 own3 grow3)
                      | fail)
                    have hb3 : RowKit.Below w.heap.size w w3 := (HBW2.out.alloc HBW2.out.size (.cells #[.int .i64 x1, .string x2, .string x3] 37)).grown grow3 (by have := HBW2.out.size; simp at this ⊢; omega) (fun k h => (HOW2.out.lt k h).1)
                    have HB3 := Lib.hid hb3; clear hb3 grow3
                    have HO3 := Lib.hid own3; clear own3
                    go_wp2_with fail
                    refine (HBE.out _).mono ?_
                    rintro e w4 ⟨rfl, rfl⟩
                    go_wp2
                    go_roundw
                    case rel => exact ⟨y, acc ++ [(x1, x2, x3)], k, rfl, by omega, by rw [List.length_append, List.length_singleton]; omega, (show Aside _ from HO3.out), (show Aside _ from HB3.out), (show Aside _ from HE.out)⟩
                    case measure => simp only [szV]; omega
                  · have g4 : ((d : Int) == 44) = false := beq_eq_false_iff_ne.2 (by omega)
                    have g6 : ((d : Int) != 44) = true := bne_iff_ne.2 (by omega)
                    have n4 : ¬ (some (UInt8.ofNat d) = some (44 : UInt8)) := fun e => byte_neH (n := 44) hcz (by omega) h4 (Option.some.inj e)
                    rw [if_neg n4] at hE
                    clear n4
                    by_cases h5 : d = 125
                    · subst h5
                      rw [show UInt8.ofNat 125 = 125 from rfl, if_pos rfl] at hE
                      have HE := Lib.hid hE; clear hE
                      go_wp2_with fail
                      refine (HPA.out _).mono ?_
                      rintro e w2 ⟨rfl, hb⟩
                      obtain ⟨hOW2, hBW2, hs2⟩ := HAPP.out w2 hb
                      have HBW2 := Lib.hid hBW2; clear hBW2 hb
                      have HOW2 := Lib.hid hOW2; clear hOW2
                      go_wp2_with (first
                        | (refine wpList_append_mt rfl (.tmp 78) (.tmp 80) rfl rfl w.heap.size _ acc rfl (HOW2.out.alloc _) _ 1 [(x1, x2, x3)] rfl (by have := rd_row' (w2.alloc (.cells #[.int .i64 x1, .string x2, .string x3] 37)) (mcells [(x1, x2, x3)]) 37; rwa [World.size_alloc] at this) (by simp; omega) (by simp; omega) ?_; intro v3 w3 own3 grow3)
                        | fail)
                      have hb3 : RowKit.Below w.heap.size w w3 := (HBW2.out.alloc HBW2.out.size (.cells #[.int .i64 x1, .string x2, .string x3] 37)).grown grow3 (by have := HBW2.out.size; simp at this ⊢; omega) (fun k h => (HOW2.out.lt k h).1)
                      have HB3 := Lib.hid hb3; clear hb3 grow3
                      have HO3 := Lib.hid own3; clear own3
                      go_wp2
                      go_roundw
                      case rel => exact ⟨z, acc ++ [(x1, x2, x3)], k, rfl, by omega, by rw [List.length_append, List.length_singleton]; omega, (show Aside _ from HO3.out), (show Aside _ from HB3.out), (show Aside _ from HE.out)⟩
                      case measure => simp only [szV]; omega
                    · have g5 : ((d : Int) == 125) = false := beq_eq_false_iff_ne.2 (by omega)
                      have g7 : ((d : Int) != 125) = true := bne_iff_ne.2 (by omega)
                      have n5 : ¬ (some (UInt8.ofNat d) = some (125 : UInt8)) := fun e => byte_neH (n := 125) hcz (by omega) h5 (Option.some.inj e)
                      rw [if_neg n5] at hE
                      subst hE
                      clear n5
                      go_wp2_with fail
                      refine (HPA.out _).mono ?_
                      rintro e w2 ⟨rfl, hb⟩
                      obtain ⟨hOW2, hBW2, hs2⟩ := HAPP.out w2 hb
                      have HBW2 := Lib.hid hBW2; clear hBW2 hb
                      have HOW2 := Lib.hid hOW2; clear hOW2
                      go_wp2
                      go_ret3
                      exact ⟨_, _, rfl, fun _ _ h => by (cases h), HBW2.out⟩
      · have g1 : ((c : Int) != 123) = true := bne_iff_ne.2 (by omega)
        have n1 : ¬ (some (UInt8.ofNat c) = some (123 : UInt8)) := fun e => byte_neH (n := 123) hc (by omega) h (Option.some.inj e)
        rw [if_neg n1] at hH
        clear n1
        subst hH
        go_enter Tryz.func14, Tryz.ntmps14
        go_wp2_with fail
        refine (HWD.out _).mono ?_
        rintro e w1 ⟨rfl, m1, rfl⟩
        have HO0 := Lib.hid (own_below_mt HOE.out (below_drewN (RowKit.Below.refl _ _) m1))
        have HB0 := Lib.hid (below_drewN HBE0.out m1)
        have HBW1 := HB0; have HO1 := HO0
        clear HO0 HB0
        go_wp2_with fail
        refine (HBA.out _).mono ?_
        rintro e w2 ⟨rfl, rfl⟩
        go_wp2
        go_ret3
        exact ⟨_, _, rfl, fun _ _ h => by (cases h), HBW1.out⟩
  · obtain ⟨e1, e2⟩ := ne_empty (hfull hz)
    have hn0 : 0 < na.size := by have := hfull hz; omega
    have hin : ∀ u, (Instr.index 9 (.string na) (.int .i64 0)).run Tryz.prog u = .ok (.int .u8 (byN na 0 : Nat)) u := fun u => run_index_s u na .i64 0 hn0
    have hd := drop_byte hn0
    rw [List.drop_zero] at hd
    have hcn := byN_lt na 0
    have hhd : (bl s).headD 0 = UInt8.ofNat (byN na 0) := (hfst hz).trans (by rw [hd]; rfl)
    rw [hhd, ofNat_toNat hcn] at hH
    clear hd hhd hempty hfull hfst
    generalize byN na 0 = cn at hin hcn hH
    by_cases hg : digitN cn = true
    · rw [if_pos ⟨hz, hg⟩] at hH
      subst hH
      unfold digitN at hg
      have q1 : (48 : Int) ≤ (cn : Int) := by simp at hg; omega
      have q2 : (cn : Int) ≤ 57 := by simp at hg; omega
      have q3 := decide_eq_true q1; have q4 := decide_eq_true q2
      clear hg
      go_enter Tryz.func14, Tryz.ntmps14
      go_wp2_with fail
      refine (HWD.out _).mono ?_
      rintro e w1 ⟨rfl, m1, rfl⟩
      go_wp2
      go_ret3
      exact ⟨_, _, rfl, fun _ _ h => by (cases h), below_drewN HBE0.out m1⟩
    · rw [if_neg (fun h => hg h.2)] at hH
      simp only [if_pos hz] at hH
      have q : decide ((48 : Int) ≤ (cn : Int)) = true → decide ((cn : Int) ≤ 57) = false := fun h => by
        unfold digitN at hg; simp at hg h ⊢; omega
      clear hg
      cases q1 : decide ((48 : Int) ≤ (cn : Int))
      case' false => (have q2 := of_decide_eq_false q1; clear q)
      case' true => (have q2 := of_decide_eq_true q1; have q3 := q q1; have q4 := of_decide_eq_false q3; clear q)
      all_goals
        by_cases htz : t.size = 0
        · obtain rfl := size_zero htz
          have hE : H = some ([(1, bareName, na)], bl ra) := hH
          subst hE
          clear hH htz
          go_enter Tryz.func14, Tryz.ntmps14
          go_wp2_with fail
          refine (HWD.out _).mono ?_
          rintro e w1 ⟨rfl, m1, rfl⟩
          have HO0 := Lib.hid (own_below_mt HOE.out (below_drewN (RowKit.Below.refl _ _) m1))
          have HB0 := Lib.hid (below_drewN HBE0.out m1)
          go_wp2_with (first
            | (refine wpList_append_mt rfl (.tmp 28) (.tmp 31) rfl rfl w.heap.size _ [] rfl (HO0.out.alloc _) _ 1 [(1, ⟨#[95, 95, 110, 97, 109, 101, 95, 95]⟩, na)] rfl (by have := rd_row' ((w.alloc (.cells #[] 37)).drewN m1) (mcells [(1, ⟨#[95, 95, 110, 97, 109, 101, 95, 95]⟩, na)]) 37; rwa [show ((w.alloc (.cells #[] 37)).drewN m1).heap.size = w.heap.size + 1 from World.size_alloc _ _] at this) (by simp) (Nat.le_trans HB0.out.size (by simp)) ?_; intro v3 w3 own3 grow3)
            | fail)
          have hb3 : RowKit.Below w.heap.size w w3 := (HB0.out.alloc HB0.out.size _).grown grow3 (by have := HB0.out.size; simp at this ⊢; omega) (fun k h => (HO0.out.lt k h).1)
          rw [List.nil_append, ← bareName_lit] at own3
          have HBW1 := Lib.hid hb3; have HO1 := Lib.hid own3
          clear hb3 own3 grow3 HO0 HB0
          go_wp2_with fail
          refine (HBA.out _).mono ?_
          rintro e w2 ⟨rfl, rfl⟩
          go_wp2
          go_ret3
          exact ⟨_, _, rfl, fun _ _ h => by (injection h with h; injection h with h1 h2; subst h1; subst h2; exact ⟨(mkB_blH ra).symm, HO1.out⟩), HBW1.out⟩
        · obtain ⟨e3, e4⟩ := ne_empty htz
          have ht0 : 0 < t.size := by omega
          have hix : ∀ u, (Instr.index 9 (.string t) (.int .i64 0)).run Tryz.prog u = .ok (.int .u8 (byN t 0 : Nat)) u := fun u => run_index_s u t .i64 0 ht0
          have hd := drop_byte ht0
          rw [List.drop_zero, Nat.zero_add, ← bl_tail] at hd
          have hc := byN_lt t 0
          have hhd : (bl t).head? = some (UInt8.ofNat (byN t 0)) := by rw [hd]; rfl
          have htl : (bl t).tail = bl (t.extract 1 t.size) := by rw [bl_tail, List.drop_one]
          rw [hhd, htl] at hH
          clear hd hhd htl
          generalize byN t 0 = c at hix hc hH
          by_cases h : c = 123
          · subst h
            rw [show UInt8.ofNat 123 = 123 from rfl, if_pos rfl] at hH
            have k2 : (1 : Int) ≤ (t.size : Int) := by omega
            have hts1 := tail_size t 1
            have hb2 := fun W => rbare_any (t.extract 1 t.size) W (by rw [hts1]; omega)
            have hr2 : (bareP (bl (t.extract 1 t.size))).length ≤ t.size - 1 := by rw [← hts1, ← bl_len]; exact bareP_le _
            clear hts1
            obtain ⟨u, hu⟩ : ∃ u, u = mkB (bareP (bl (t.extract 1 t.size))) := ⟨_, rfl⟩
            have hub : bareP (bl (t.extract 1 t.size)) = bl u := by rw [hu, bl_mk]
            simp only [← hu] at hb2
            rw [hub] at hH hr2
            rw [bl_len] at hr2 hH
            clear hu hub
            have HB2 := Lib.hid hb2; clear hb2
            have HL := Lib.hid hH; clear hH
            go_enter Tryz.func14, Tryz.ntmps14
            go_wp2_with fail
            refine (HWD.out _).mono ?_
            rintro e w1 ⟨rfl, m1, rfl⟩
            have HO0 := Lib.hid (own_below_mt HOE.out (below_drewN (RowKit.Below.refl _ _) m1))
            have HB0 := Lib.hid (below_drewN HBE0.out m1)
            go_wp2_with (first
              | (refine wpList_append_mt rfl (.tmp 28) (.tmp 31) rfl rfl w.heap.size _ [] rfl (HO0.out.alloc _) _ 1 [(1, ⟨#[95, 95, 110, 97, 109, 101, 95, 95]⟩, na)] rfl (by have := rd_row' ((w.alloc (.cells #[] 37)).drewN m1) (mcells [(1, ⟨#[95, 95, 110, 97, 109, 101, 95, 95]⟩, na)]) 37; rwa [show ((w.alloc (.cells #[] 37)).drewN m1).heap.size = w.heap.size + 1 from World.size_alloc _ _] at this) (by simp) (Nat.le_trans HB0.out.size (by simp)) ?_; intro v3 w3 own3 grow3)
              | fail)
            have hb3 : RowKit.Below w.heap.size w w3 := (HB0.out.alloc HB0.out.size _).grown grow3 (by have := HB0.out.size; simp at this ⊢; omega) (fun k h => (HO0.out.lt k h).1)
            rw [List.nil_append, ← bareName_lit] at own3
            have HBW1 := Lib.hid hb3; have HO1 := Lib.hid own3
            clear hb3 own3 grow3 HO0 HB0
            go_wp2_with fail
            refine (HBA.out _).mono ?_
            rintro e w2 ⟨rfl, rfl⟩
            go_wp2_with fail
            refine (HB2.out _).mono ?_
            rintro e w3 ⟨rfl, rfl⟩
            go_wp2
            clear e3 e4 hix
            go_loopw [0, 5] (fun s0 s5 wr => ∃ (v : ByteArray) (acc : List Mt') (k : Nat), s0 = .string v ∧ v.size < k ∧ acc.length + v.size ≤ s.size + 1 ∧ Aside (wr.ownsRow w.heap.size 37 3 s5 acc.length (mcells acc)) ∧ Aside (RowKit.Below w.heap.size w wr) ∧ Aside (H = bodyR k (bl v) acc)) (fun s0 _ _ => szV s0)
            case atStart => exact ⟨u, [(1, bareName, na)], s.size + 1, rfl, by omega, by simp; omega, (show Aside _ from HO1.out), (show Aside _ from HBW1.out), (show Aside _ from HL.out)⟩
            case round =>
              clear HL HO1 HBW1
              obtain ⟨v, acc, k, rfl, hvk, hav, OW, BW, LE⟩ := hrel
              obtain ⟨k, rfl⟩ : ∃ k', k = k' + 1 := ⟨k - 1, by omega⟩
              obtain ⟨A6, c6, hv6, hrd6, -, -⟩ := own_rd_mt OW.out
              subst hv6
              clear hrd6
              by_cases hvz : v.size = 0
              · obtain rfl := size_zero hvz
                have hr : H = none := LE.out.trans (bodyR_nil k acc)
                subst hr
                clear hvz hvk hav LE
                go_wp2
                go_ret3
                exact ⟨_, _, rfl, fun _ _ h => by (cases h), BW.out⟩
              · obtain ⟨e1, e2⟩ := ne_empty hvz
                have hv0 : 0 < v.size := by omega
                have k2 : (1 : Int) ≤ (v.size : Int) := by omega
                have hix : ∀ u, (Instr.index 9 (.string v) (.int .i64 0)).run Tryz.prog u = .ok (.int .u8 (byN v 0 : Nat)) u := fun u => run_index_s u v .i64 0 hv0
                have hd := drop_byte hv0
                rw [List.drop_zero, Nat.zero_add, ← bl_tail] at hd
                have hc := byN_lt v 0
                have hE := LE.out
                generalize byN v 0 = c at hix hc hd
                by_cases h1 : c = 125
                · subst h1
                  rw [hd, show UInt8.ofNat 125 = 125 from rfl, bodyR_close] at hE
                  clear hd
                  rw [← bl_mk (bl (v.extract 1 v.size))] at hE
                  have hmb : mkB (bl (v.extract 1 v.size)) = v.extract 1 v.size := by rw [bl_tail, extract_tail]
                  subst hE
                  clear LE
                  go_wp2_with fail
                  go_quiet (fail)
                  go_wp2
                  go_ret3
                  exact ⟨_, _, rfl, fun _ _ h => by (injection h with h; injection h with h1 h2; subst h1; subst h2; exact ⟨by rw [bl_mk, hmb], by first | exact OW.out | exact own_below_mt OW.out (below_drewN (RowKit.Below.refl _ _) _)⟩), by first | exact BW.out | exact below_drewN BW.out _⟩
                · have g1 : ((c : Int) == 125) = false := beq_eq_false_iff_ne.2 (by omega)
                  have hne : UInt8.ofNat c ≠ 125 := byte_neH (n := 125) hc (by omega) h1
                  have hpa := fun W => rone_any v W (by omega)
                  rw [bodyR_step (by rw [hd]; simp) (by rw [hd]; simp; exact hne)] at hE
                  clear hd hne
                  cases hF : oneR (bl v) with
                  | none =>
                    rw [hF] at hpa hE
                    simp only at hE
                    subst hE
                    unfold oneRT at hpa
                    simp only at hpa
                    have HPA := Lib.hid hpa
                    clear hpa LE
                    go_wp2_with fail
                    refine (HPA.out _).mono ?_
                    rintro e w3 ⟨rfl, hb⟩
                    have HB3 := Lib.hid ((BW.out.trans (hb.mono BW.out.size)).alloc (Nat.le_trans BW.out.size hb.size) (.cells #[.int .i64 0, .string ⟨#[]⟩, .string ⟨#[]⟩] 37)); clear hb
                    go_wp2
                    go_ret3
                    exact ⟨_, _, rfl, fun _ _ h => by (cases h), HB3.out⟩
                  | some p =>
                    obtain ⟨x, q⟩ := p
                    have hlt := oneR_lt hF
                    rw [bl_len] at hlt
                    rw [hF] at hpa hE
                    simp only at hE
                    unfold oneRT at hpa
                    simp only at hpa
                    obtain ⟨x1, x2, x3⟩ := x
                    simp only at hpa
                    obtain ⟨z, hzz⟩ : ∃ z, z = mkB q := ⟨_, rfl⟩
                    have hzb : q = bl z := by rw [hzz, bl_mk]
                    have hzl : z.size < v.size := by rw [hzz, mkB_size]; exact hlt
                    simp only [← hzz] at hpa
                    rw [hzb] at hE
                    have HPA := Lib.hid hpa
                    clear hpa hzz hzb hF hlt LE
                    have happ : ∀ w2 : World, RowKit.Below wr.heap.size wr w2 → (w2.alloc (.cells #[.int .i64 x1, .string x2, .string x3] 37)).ownsRow w.heap.size 37 3 (.slice A6 acc.length c6) acc.length (mcells acc) ∧ RowKit.Below w.heap.size w (w2.alloc (.cells #[.int .i64 x1, .string x2, .string x3] 37)) ∧ w.heap.size ≤ w2.heap.size + 1 := fun w2 hb =>
                      ⟨(own_below_mt OW.out hb).alloc _, (BW.out.trans (hb.mono BW.out.size)).alloc (Nat.le_trans BW.out.size hb.size) _, by have := hb.size; have := BW.out.size; omega⟩
                    have HAPP := Lib.hid happ; clear happ
                    by_cases hzz : z.size = 0
                    · obtain rfl := size_zero hzz
                      have hE : H = none := hE
                      subst hE
                      clear hzz hzl
                      go_wp2_with fail
                      refine (HPA.out _).mono ?_
                      rintro e w2 ⟨rfl, hb⟩
                      obtain ⟨hOW2, hBW2, hs2⟩ := HAPP.out w2 hb
                      have HBW2 := Lib.hid hBW2; clear hBW2 hb
                      have HOW2 := Lib.hid hOW2; clear hOW2
                      go_wp2
                      go_ret3
                      exact ⟨_, _, rfl, fun _ _ h => by (cases h), HBW2.out⟩
                    · obtain ⟨e5, e6⟩ := ne_empty hzz
                      have hz0 : 0 < z.size := by omega
                      have k3 : (1 : Int) ≤ (z.size : Int) := by omega
                      have hiz : ∀ u, (Instr.index 9 (.string z) (.int .i64 0)).run Tryz.prog u = .ok (.int .u8 (byN z 0 : Nat)) u := fun u => run_index_s u z .i64 0 hz0
                      have hdz := drop_byte hz0
                      rw [List.drop_zero, Nat.zero_add, ← bl_tail] at hdz
                      have hcz := byN_lt z 0
                      have hhd : (bl z).head? = some (UInt8.ofNat (byN z 0)) := by rw [hdz]; rfl
                      have htl : (bl z).tail = bl (z.extract 1 z.size) := by rw [bl_tail, List.drop_one]
                      rw [hhd, htl] at hE
                      clear hdz hhd htl
                      generalize byN z 0 = d at hiz hcz hE
                      by_cases h4 : d = 44
                      · subst h4
                        rw [show UInt8.ofNat 44 = 44 from rfl, if_pos rfl] at hE
                        have hts1 := tail_size z 1
                        have hb3 := fun W => rbare_any (z.extract 1 z.size) W (by rw [hts1]; omega)
                        have hr2 : (bareP (bl (z.extract 1 z.size))).length ≤ z.size - 1 := by rw [← hts1, ← bl_len]; exact bareP_le _
                        clear hts1
                        obtain ⟨y, hy⟩ : ∃ y, y = mkB (bareP (bl (z.extract 1 z.size))) := ⟨_, rfl⟩
                        have hyb : bareP (bl (z.extract 1 z.size)) = bl y := by rw [hy, bl_mk]
                        simp only [← hy] at hb3
                        rw [hyb] at hE hr2
                        rw [bl_len] at hr2
                        have HBE := Lib.hid hb3; have HE := Lib.hid hE
                        clear hb3 hE hy hyb
                        go_wp2_with fail
                        refine (HPA.out _).mono ?_
                        rintro e w2 ⟨rfl, hb⟩
                        obtain ⟨hOW2, hBW2, hs2⟩ := HAPP.out w2 hb
                        have HBW2 := Lib.hid hBW2; clear hBW2 hb
                        have HOW2 := Lib.hid hOW2; clear hOW2
                        go_wp2_with (first
                          | (refine wpList_append_mt rfl (.tmp 78) (.tmp 80) rfl rfl w.heap.size _ acc rfl (HOW2.out.alloc _) _ 1 [(x1, x2, x3)] rfl (by have := rd_row' (w2.alloc (.cells #[.int .i64 x1, .string x2, .string x3] 37)) (mcells [(x1, x2, x3)]) 37; rwa [World.size_alloc] at this) (by simp; omega) (by simp; omega) ?_; intro v3 w3 own3 grow3)
                          | fail)
                        have hb3 : RowKit.Below w.heap.size w w3 := (HBW2.out.alloc HBW2.out.size (.cells #[.int .i64 x1, .string x2, .string x3] 37)).grown grow3 (by have := HBW2.out.size; simp at this ⊢; omega) (fun k h => (HOW2.out.lt k h).1)
                        have HB3 := Lib.hid hb3; clear hb3 grow3
                        have HO3 := Lib.hid own3; clear own3
                        go_wp2_with fail
                        refine (HBE.out _).mono ?_
                        rintro e w4 ⟨rfl, rfl⟩
                        go_wp2
                        go_roundw
                        case rel => exact ⟨y, acc ++ [(x1, x2, x3)], k, rfl, by omega, by rw [List.length_append, List.length_singleton]; omega, (show Aside _ from HO3.out), (show Aside _ from HB3.out), (show Aside _ from HE.out)⟩
                        case measure => simp only [szV]; omega
                      · have g4 : ((d : Int) == 44) = false := beq_eq_false_iff_ne.2 (by omega)
                        have g6 : ((d : Int) != 44) = true := bne_iff_ne.2 (by omega)
                        have n4 : ¬ (some (UInt8.ofNat d) = some (44 : UInt8)) := fun e => byte_neH (n := 44) hcz (by omega) h4 (Option.some.inj e)
                        rw [if_neg n4] at hE
                        clear n4
                        by_cases h5 : d = 125
                        · subst h5
                          rw [show UInt8.ofNat 125 = 125 from rfl, if_pos rfl] at hE
                          have HE := Lib.hid hE; clear hE
                          go_wp2_with fail
                          refine (HPA.out _).mono ?_
                          rintro e w2 ⟨rfl, hb⟩
                          obtain ⟨hOW2, hBW2, hs2⟩ := HAPP.out w2 hb
                          have HBW2 := Lib.hid hBW2; clear hBW2 hb
                          have HOW2 := Lib.hid hOW2; clear hOW2
                          go_wp2_with (first
                            | (refine wpList_append_mt rfl (.tmp 78) (.tmp 80) rfl rfl w.heap.size _ acc rfl (HOW2.out.alloc _) _ 1 [(x1, x2, x3)] rfl (by have := rd_row' (w2.alloc (.cells #[.int .i64 x1, .string x2, .string x3] 37)) (mcells [(x1, x2, x3)]) 37; rwa [World.size_alloc] at this) (by simp; omega) (by simp; omega) ?_; intro v3 w3 own3 grow3)
                            | fail)
                          have hb3 : RowKit.Below w.heap.size w w3 := (HBW2.out.alloc HBW2.out.size (.cells #[.int .i64 x1, .string x2, .string x3] 37)).grown grow3 (by have := HBW2.out.size; simp at this ⊢; omega) (fun k h => (HOW2.out.lt k h).1)
                          have HB3 := Lib.hid hb3; clear hb3 grow3
                          have HO3 := Lib.hid own3; clear own3
                          go_wp2
                          go_roundw
                          case rel => exact ⟨z, acc ++ [(x1, x2, x3)], k, rfl, by omega, by rw [List.length_append, List.length_singleton]; omega, (show Aside _ from HO3.out), (show Aside _ from HB3.out), (show Aside _ from HE.out)⟩
                          case measure => simp only [szV]; omega
                        · have g5 : ((d : Int) == 125) = false := beq_eq_false_iff_ne.2 (by omega)
                          have g7 : ((d : Int) != 125) = true := bne_iff_ne.2 (by omega)
                          have n5 : ¬ (some (UInt8.ofNat d) = some (125 : UInt8)) := fun e => byte_neH (n := 125) hcz (by omega) h5 (Option.some.inj e)
                          rw [if_neg n5] at hE
                          subst hE
                          clear n5
                          go_wp2_with fail
                          refine (HPA.out _).mono ?_
                          rintro e w2 ⟨rfl, hb⟩
                          obtain ⟨hOW2, hBW2, hs2⟩ := HAPP.out w2 hb
                          have HBW2 := Lib.hid hBW2; clear hBW2 hb
                          have HOW2 := Lib.hid hOW2; clear hOW2
                          go_wp2
                          go_ret3
                          exact ⟨_, _, rfl, fun _ _ h => by (cases h), HBW2.out⟩
          · have g1 : ((c : Int) != 123) = true := bne_iff_ne.2 (by omega)
            have n1 : ¬ (some (UInt8.ofNat c) = some (123 : UInt8)) := fun e => byte_neH (n := 123) hc (by omega) h (Option.some.inj e)
            rw [if_neg n1] at hH
            clear n1
            subst hH
            go_enter Tryz.func14, Tryz.ntmps14
            go_wp2_with fail
            refine (HWD.out _).mono ?_
            rintro e w1 ⟨rfl, m1, rfl⟩
            have HO0 := Lib.hid (own_below_mt HOE.out (below_drewN (RowKit.Below.refl _ _) m1))
            have HB0 := Lib.hid (below_drewN HBE0.out m1)
            go_wp2_with (first
              | (refine wpList_append_mt rfl (.tmp 28) (.tmp 31) rfl rfl w.heap.size _ [] rfl (HO0.out.alloc _) _ 1 [(1, ⟨#[95, 95, 110, 97, 109, 101, 95, 95]⟩, na)] rfl (by have := rd_row' ((w.alloc (.cells #[] 37)).drewN m1) (mcells [(1, ⟨#[95, 95, 110, 97, 109, 101, 95, 95]⟩, na)]) 37; rwa [show ((w.alloc (.cells #[] 37)).drewN m1).heap.size = w.heap.size + 1 from World.size_alloc _ _] at this) (by simp) (Nat.le_trans HB0.out.size (by simp)) ?_; intro v3 w3 own3 grow3)
              | fail)
            have hb3 : RowKit.Below w.heap.size w w3 := (HB0.out.alloc HB0.out.size _).grown grow3 (by have := HB0.out.size; simp at this ⊢; omega) (fun k h => (HO0.out.lt k h).1)
            rw [List.nil_append, ← bareName_lit] at own3
            have HBW1 := Lib.hid hb3; have HO1 := Lib.hid own3
            clear hb3 own3 grow3 HO0 HB0
            go_wp2_with fail
            refine (HBA.out _).mono ?_
            rintro e w2 ⟨rfl, rfl⟩
            go_wp2
            go_ret3
            exact ⟨_, _, rfl, fun _ _ h => by (injection h with h; injection h with h1 h2; subst h1; subst h2; exact ⟨(mkB_blH ra).symm, HO1.out⟩), HBW1.out⟩
end
end Go.Proofs.YtinjdlplbficiaaGreatDoor
