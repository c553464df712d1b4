/-
  Parse: the plain answers' own.
-/
import Derived.Test.YtpdbpgebgjgbkaaDoorRp
import Derived.Test.YtpdbpgebgjgbkaaDoorRma
namespace Go.Proofs.YtpdbpgebgjgbkaaDoor
set_option linter.unusedVariables false
set_option linter.unusedSimpArgs false
open Go.RowKit
theorem parseB_nil (k : Nat) (acc : List Lb) : parseB (k + 1) [] acc = none := by unfold parseB; rw [if_pos (.inl rfl)]; rfl
theorem parseB_close (k : Nat) (r : Bs) (acc : List Lb) : parseB (k + 1) (125 :: r) acc = if bareP r = [] then some acc else none := by
  unfold parseB
  rw [if_pos (.inr rfl)]
  unfold endP
  rw [markP_cons, if_pos rfl]
  by_cases h : bareP r = [] <;> simp [h]
theorem parseB_none {k : Nat} {c : UInt8} {r : Bs} {acc : List Lb} (h : c ≠ 125) (hf : firstP (c :: r) = none) : parseB (k + 1) (c :: r) acc = none := by
  rw [parseB, if_neg (by simp [h]), hf]
theorem parseB_some {k : Nat} {c : UInt8} {r q : Bs} {x : Lb} {acc : List Lb} (h : c ≠ 125) (hf : firstP (c :: r) = some (x, q)) : parseB (k + 1) (c :: r) acc =
    if bareP q = [] then none else if (bareP q).headD 0 = 44 then parseB k (bareP (bareP q).tail) (acc ++ [x]) else if (bareP q).headD 0 = 125 then parseB k (bareP q) (acc ++ [x]) else none := by
  rw [parseB, if_neg (by simp [h]), hf]
theorem byte_ne {c n : Nat} (hc : c < 256) (hn : n < 256) (h : ¬ c = n) : UInt8.ofNat c ≠ UInt8.ofNat n := fun e => h (by
  have := congrArg UInt8.toNat e; rwa [ofNat_toNat hc, ofNat_toNat hn] at this)
section
set_option maxHeartbeats 1600000
set_option maxRecDepth 100000
theorem rparse_any (s : ByteArray) (w : World) (hl : s.size ≤ 6000) :
    Calls Tryd.prog 31 #[.string s] w fun e w' => ∃ A' c', e = .returned (.tuple #[.slice A' (parseP (bl s)).2.length c', .int .i64 ((parseP (bl s)).1 : Nat)]) ∧
      w'.ownsRow w.heap.size 51 2 (.slice A' (parseP (bl s)).2.length c') (parseP (bl s)).2.length (lcells (parseP (bl s)).2) ∧ Below w.heap.size w w' := by
  obtain ⟨R, hR⟩ : ∃ R, R = parseP (bl s) := ⟨_, rfl⟩
  rw [← hR]
  unfold parseP at hR
  obtain ⟨L, hL⟩ : ∃ L, L = listP (bl s) := ⟨_, rfl⟩
  rw [← hL] at hR
  unfold listP at hL
  have hR0 : L = none → R = (8, []) := fun h => by rw [hR, h]
  have hR1 : ∀ l, L = some l → R = makeP l := fun l h => by rw [hR, h]
  have HR0 := Lib.hid hR0; have HR1 := Lib.hid hR1
  clear hR hR0 hR1
  have hba := fun W => rbare_any s W (by omega)
  obtain ⟨t, ht⟩ : ∃ t, t = mkB (bareP (bl s)) := ⟨_, rfl⟩
  have htb : bareP (bl s) = bl t := by rw [ht, bl_mk]
  have hts : t.size ≤ s.size := by rw [ht, mkB_size, ← bl_len]; exact bareP_le _
  simp only [← ht] at hba
  rw [htb] at hL
  clear htb ht
  have HBA := Lib.hid hba; clear hba
  by_cases htz : t.size = 0
  · obtain rfl := size_zero htz
    have hr := HR0.out hL
    subst hr
    clear hL htz
    go_enter Tryd.func31, Tryd.ntmps31
    go_wp2_with fail
    refine (HBA.out _).mono ?_
    rintro e w1 ⟨rfl, rfl⟩
    go_wp2
    go_ret2
    exact ⟨none, 0, rfl, World.ownsRow_nil _ _ _ _, Below.refl _ _⟩
  · obtain ⟨e3, e4⟩ := ne_empty htz
    have ht0 : 0 < t.size := by omega
    have hix : ∀ u, (Instr.index 9 (.string t) (.int .i64 0)).run Tryd.prog u = .ok (.int .u8 (byN t 0 : Nat)) u := fun u => run_index_s u t .i64 0 ht0
    have hd := drop_byte ht0
    rw [List.drop_zero] at hd
    have hc := byN_lt t 0
    rw [hd, markP_cons] at hL
    clear hd
    rw [Nat.zero_add, ← bl_tail] at hL
    generalize byN t 0 = c at hix hc hL
    by_cases h : c = 123
    · subst h
      rw [show UInt8.ofNat 123 = 123 from rfl, if_pos rfl] at hL
      simp only at hL
      have k2 : (1 : Int) ≤ (t.size : Int) := by omega
      have hts1 := tail_size t 1
      have hb2 := fun W => rbare_any (t.extract 1 t.size) W (by rw [hts1]; omega)
      have hr2 : (bareP (bl (t.extract 1 t.size))).length ≤ t.size - 1 := by rw [← hts1, ← bl_len]; exact bareP_le _
      clear hts1
      obtain ⟨u, hu⟩ : ∃ u, u = mkB (bareP (bl (t.extract 1 t.size))) := ⟨_, rfl⟩
      have hub : bareP (bl (t.extract 1 t.size)) = bl u := by rw [hu, bl_mk]
      simp only [← hu] at hb2
      rw [hub] at hL hr2
      rw [bl_len] at hr2
      clear hu hub
      have HB2 := Lib.hid hb2; clear hb2
      rw [← parseB_eq _ _ _ (by rw [bl_len, bl_len]; omega), bl_len] at hL
      have HL := Lib.hid hL; clear hL
      have hown1 : (w.alloc (.cells #[] 51)).ownsRow w.heap.size 51 2 (.slice (some ⟨w.heap.size, 0, none⟩) 0 0) 0 [] := own_whole (l := []) (Nat.le_refl _) (by decide) (heap_alloc_new w _)
      have hbw1 : RowKit.Below w.heap.size w (w.alloc (.cells #[] 51)) := (RowKit.Below.refl _ w).alloc (Nat.le_refl _) _
      have HO1 := Lib.hid hown1; have HBW1 := Lib.hid hbw1
      clear hown1 hbw1
      go_enter Tryd.func31, Tryd.ntmps31
      go_wp2_with fail
      refine (HBA.out _).mono ?_
      rintro e w1 ⟨rfl, rfl⟩
      go_wp2_with fail
      refine (HB2.out _).mono ?_
      rintro e w2 ⟨rfl, rfl⟩
      go_wp2
      clear e3 e4 hix
      go_loopw [0, 4] (fun s0 s4 wr => ∃ (v : ByteArray) (acc : List Lb) (k : Nat), s0 = .string v ∧ v.size < k ∧ acc.length + v.size ≤ s.size ∧ Aside (wr.ownsRow w.heap.size 51 2 s4 acc.length (lcells acc)) ∧ Aside (RowKit.Below w.heap.size w wr) ∧ Aside (L = parseB k (bl v) acc) ∧ Aside (∀ y ∈ acc, y.1.size ≤ s.size ∧ y.2.size ≤ s.size)) (fun s0 _ _ => szV s0)
      case atStart => exact ⟨u, [], s.size + 1, rfl, by omega, by simp; omega, HO1.out, HBW1.out, HL.out, (show ∀ y ∈ ([] : List Lb), _ from fun y hy => by cases hy)⟩
      case round =>
        obtain ⟨v, acc, k, rfl, hvk, hav, OW, BW, LE, SZ⟩ := hrel
        obtain ⟨k, rfl⟩ : ∃ k', k = k' + 1 := ⟨k - 1, by omega⟩
        obtain ⟨A6, c6, hv6, hrd6⟩ := own_rdL OW.out
        subst hv6
        have HRD := Lib.hid hrd6; clear hrd6
        by_cases hvz : v.size = 0
        · obtain rfl := size_zero hvz
          have hr := HR0.out (LE.out.trans (parseB_nil k acc))
          subst hr
          clear hvz hvk hav
          go_wp2
          go_ret2
          exact ⟨none, 0, rfl, World.ownsRow_nil _ _ _ _, BW.out⟩
        · obtain ⟨e1, e2⟩ := ne_empty hvz
          have hv0 : 0 < v.size := by omega
          have k2 : (1 : Int) ≤ (v.size : Int) := by omega
          have hix : ∀ u, (Instr.index 9 (.string v) (.int .i64 0)).run Tryd.prog u = .ok (.int .u8 (byN v 0 : Nat)) u := fun u => run_index_s u v .i64 0 hv0
          have hd := drop_byte hv0
          rw [List.drop_zero, Nat.zero_add, ← bl_tail] at hd
          have hc := byN_lt v 0
          have hE := LE.out
          rw [hd] at hE
          generalize byN v 0 = c at hix hc hd hE
          by_cases h1 : c = 125
          · subst h1
            rw [show UInt8.ofNat 125 = 125 from rfl, parseB_close] at hE
            have hts1 := tail_size v 1
            have hb3 := fun W => rbare_any (v.extract 1 v.size) W (by rw [hts1]; omega)
            clear hd hts1
            by_cases hz : bareP (bl (v.extract 1 v.size)) = []
            · rw [if_pos hz] at hE
              have hr := HR1.out _ hE
              rw [hz, show mkB [] = ⟨#[]⟩ from rfl] at hb3
              have hmk := fun W (hr : Rd W A6 (lcells acc)) => rmake_any A6 c6 acc W hr ⟨by omega, fun x hx => by have := SZ.out x hx; omega⟩
              rw [← hr] at hmk
              have HB3 := Lib.hid hb3; have HMK := Lib.hid hmk
              clear hb3 hmk hr hE hz
              go_wp2_with fail
              refine (HB3.out _).mono ?_
              rintro e w3 ⟨rfl, rfl⟩
              go_wp2_with fail
              refine (HMK.out _ HRD.out).mono ?_
              rintro e w4 ⟨A2, c2, rfl, ho, hb⟩
              have HO := Lib.hid (ho.lower BW.out.size); clear ho
              have HB4 := Lib.hid (BW.out.trans (hb.mono BW.out.size)); clear hb
              go_wp2
              go_ret2
              exact ⟨A2, c2, rfl, HO.out, HB4.out⟩
            · rw [if_neg hz] at hE
              have hr := HR0.out hE
              subst hr
              obtain ⟨z, hzz⟩ : ∃ z, z = mkB (bareP (bl (v.extract 1 v.size))) := ⟨_, rfl⟩
              have hzs : z.size ≠ 0 := by rw [hzz, mkB_size]; exact fun h => hz (List.eq_nil_of_length_eq_zero h)
              simp only [← hzz] at hb3
              obtain ⟨e5, e6⟩ := ne_empty hzs
              have HB3 := Lib.hid hb3
              clear hb3 hE hz hzs hzz
              go_wp2_with fail
              refine (HB3.out _).mono ?_
              rintro e w3 ⟨rfl, rfl⟩
              go_wp2
              go_ret2
              exact ⟨none, 0, rfl, World.ownsRow_nil _ _ _ _, BW.out⟩
          · have g1 : ((c : Int) == 125) = false := beq_eq_false_iff_ne.2 (by omega)
            have hne : UInt8.ofNat c ≠ 125 := byte_ne (n := 125) hc (by omega) h1
            have hpa := fun W => pair_any v W (by omega)
            cases hF : firstP (bl v) with
            | none =>
              rw [hF] at hpa
              rw [hd] at hF
              have hr := HR0.out (hE.trans (parseB_none hne hF))
              subst hr
              unfold pairT at hpa
              simp only at hpa
              have HPA := Lib.hid hpa
              clear hpa hE hd hF hne
              go_wp2_with fail
              refine (HPA.out _).mono ?_
              rintro e w3 ⟨rfl, hb⟩
              have HB3 := Lib.hid ((BW.out.trans (hb.mono BW.out.size)).alloc (Nat.le_trans BW.out.size hb.size) (.cells #[.string ⟨#[]⟩, .string ⟨#[]⟩] 51)); clear hb
              go_wp2
              go_ret2
              exact ⟨none, 0, rfl, World.ownsRow_nil _ _ _ _, HB3.out⟩
            | some p =>
              obtain ⟨x, q⟩ := p
              have hlt := firstP_lt hF
              have hfs := firstP_size hF
              rw [bl_len] at hlt hfs
              rw [hF] at hpa
              rw [hd] at hF
              rw [parseB_some hne hF] at hE
              unfold pairT at hpa
              simp only at hpa
              obtain ⟨x1, x2⟩ := x
              simp only at hpa hfs
              obtain ⟨z, hzz⟩ : ∃ z, z = mkB (bareP q) := ⟨_, rfl⟩
              have hzb : bareP q = bl z := by rw [hzz, bl_mk]
              have hzl : z.size < v.size := by rw [hzz, mkB_size]; have := bareP_le q; omega
              simp only [← hzz] at hpa
              rw [hzb] at hE
              have HPA := Lib.hid hpa
              clear hpa hzz hzb hF hd hne hlt
              have hSZ : ∀ y ∈ acc ++ [(x1, x2)], y.1.size ≤ s.size ∧ y.2.size ≤ s.size := fun y hy => by
                rcases List.mem_append.1 hy with hy | hy
                · exact SZ.out y hy
                · rw [List.mem_singleton] at hy; subst hy; simp only; omega
              have HSZ := Lib.hid hSZ; clear hSZ hfs
              by_cases hzz : z.size = 0
              · obtain rfl := size_zero hzz
                have hr := HR0.out (hE.trans (if_pos rfl))
                subst hr
                clear hE hzz hzl
                go_wp2_with fail
                refine (HPA.out _).mono ?_
                rintro e w3 ⟨rfl, hb⟩
                have HB3 := Lib.hid ((BW.out.trans (hb.mono BW.out.size)).alloc (Nat.le_trans BW.out.size hb.size) (.cells #[.string x1, .string x2] 51)); clear hb
                go_wp2
                go_ret2
                exact ⟨none, 0, rfl, World.ownsRow_nil _ _ _ _, HB3.out⟩
              · obtain ⟨e5, e6⟩ := ne_empty hzz
                have hz0 : 0 < z.size := by omega
                have k3 : (1 : Int) ≤ (z.size : Int) := by omega
                have hiz : ∀ u, (Instr.index 9 (.string z) (.int .i64 0)).run Tryd.prog u = .ok (.int .u8 (byN z 0 : Nat)) u := fun u => run_index_s u z .i64 0 hz0
                have hdz := drop_byte hz0
                rw [List.drop_zero, Nat.zero_add, ← bl_tail] at hdz
                have hcz := byN_lt z 0
                have hzn : bl z ≠ [] := by rw [hdz]; simp
                have hhd : (bl z).headD 0 = UInt8.ofNat (byN z 0) := by rw [hdz]; rfl
                have htl : (bl z).tail = bl (z.extract 1 z.size) := by rw [bl_tail, List.drop_one]
                rw [if_neg hzn, hhd, htl] at hE
                clear hdz hzn hhd htl
                generalize byN z 0 = d at hiz hcz hE
                have happ : ∀ w2 : World, RowKit.Below wr.heap.size wr w2 → (w2.alloc (.cells #[.string x1, .string x2] 51)).ownsRow w.heap.size 51 2 (.slice A6 acc.length c6) acc.length (lcells acc) ∧ RowKit.Below w.heap.size w (w2.alloc (.cells #[.string x1, .string x2] 51)) ∧ w.heap.size ≤ w2.heap.size + 1 := fun w2 hb =>
                  ⟨(own_belowL OW.out hb).alloc _, (BW.out.trans (hb.mono BW.out.size)).alloc (Nat.le_trans BW.out.size hb.size) _, by have := hb.size; have := BW.out.size; omega⟩
                have HAPP := Lib.hid happ; clear happ
                by_cases h4 : d = 44
                · subst h4
                  rw [show UInt8.ofNat 44 = 44 from rfl, if_pos rfl] at hE
                  have hts1 := tail_size z 1
                  have hb3 := fun W => rbare_any (z.extract 1 z.size) W (by rw [hts1]; omega)
                  have hr2 : (bareP (bl (z.extract 1 z.size))).length ≤ z.size - 1 := by rw [← hts1, ← bl_len]; exact bareP_le _
                  clear hts1
                  obtain ⟨y, hy⟩ : ∃ y, y = mkB (bareP (bl (z.extract 1 z.size))) := ⟨_, rfl⟩
                  have hyb : bareP (bl (z.extract 1 z.size)) = bl y := by rw [hy, bl_mk]
                  simp only [← hy] at hb3
                  rw [hyb] at hE hr2
                  rw [bl_len] at hr2
                  have HBE := Lib.hid hb3; have HE := Lib.hid hE
                  clear hb3 hE hy hyb
                  go_wp2_with fail
                  refine (HPA.out _).mono ?_
                  rintro e w2 ⟨rfl, hb⟩
                  obtain ⟨hOW2, hBW2, hs2⟩ := HAPP.out w2 hb
                  have HBW2 := Lib.hid hBW2; clear hBW2 hb
                  have HOW2 := Lib.hid hOW2; clear hOW2
                  go_wp2_with (first
                    | (at_builtin; go_must (refine wpList_append_lb rfl _ _ rfl rfl w.heap.size _ acc rfl (HOW2.out.alloc _) _ 1 [(x1, x2)] rfl (by have := rd_row (w2.alloc (.cells #[.string x1, .string x2] 51)) [.string x1, .string x2] 51; rwa [World.size_alloc] at this) (by simp; omega) (by simp; omega) ?_; intro v3 w3 own3 grow3))
                    | fail)
                  have hb3 : RowKit.Below w.heap.size w w3 := (HBW2.out.alloc HBW2.out.size (.cells #[.string x1, .string x2] 51)).grown grow3 (by have := HBW2.out.size; simp at this ⊢; omega) (fun k h => (HOW2.out.lt k h).1)
                  have HB3 := Lib.hid hb3; clear hb3 grow3
                  have HO3 := Lib.hid own3; clear own3
                  go_wp2_with fail
                  refine (HBE.out _).mono ?_
                  rintro e w4 ⟨rfl, rfl⟩
                  go_wp2
                  go_roundw
                  case rel => exact ⟨y, acc ++ [(x1, x2)], k, rfl, by omega, by rw [List.length_append, List.length_singleton]; omega, (show Aside _ from HO3.out), (show Aside _ from HB3.out), (show Aside _ from HE.out), (show Aside _ from HSZ.out)⟩
                  case measure => simp only [szV]; omega
                · have g4 : ((d : Int) == 44) = false := beq_eq_false_iff_ne.2 (by omega)
                  rw [if_neg (show UInt8.ofNat d ≠ 44 from byte_ne (n := 44) hcz (by omega) h4)] at hE
                  by_cases h5 : d = 125
                  · subst h5
                    rw [show UInt8.ofNat 125 = 125 from rfl, if_pos rfl] at hE
                    have HE := Lib.hid hE; clear hE
                    go_wp2_with fail
                    refine (HPA.out _).mono ?_
                    rintro e w2 ⟨rfl, hb⟩
                    obtain ⟨hOW2, hBW2, hs2⟩ := HAPP.out w2 hb
                    have HBW2 := Lib.hid hBW2; clear hBW2 hb
                    have HOW2 := Lib.hid hOW2; clear hOW2
                    go_wp2_with (first
                      | (at_builtin; go_must (refine wpList_append_lb rfl _ _ rfl rfl w.heap.size _ acc rfl (HOW2.out.alloc _) _ 1 [(x1, x2)] rfl (by have := rd_row (w2.alloc (.cells #[.string x1, .string x2] 51)) [.string x1, .string x2] 51; rwa [World.size_alloc] at this) (by simp; omega) (by simp; omega) ?_; intro v3 w3 own3 grow3))
                      | fail)
                    have hb3 : RowKit.Below w.heap.size w w3 := (HBW2.out.alloc HBW2.out.size (.cells #[.string x1, .string x2] 51)).grown grow3 (by have := HBW2.out.size; simp at this ⊢; omega) (fun k h => (HOW2.out.lt k h).1)
                    have HB3 := Lib.hid hb3; clear hb3 grow3
                    have HO3 := Lib.hid own3; clear own3
                    go_wp2
                    go_roundw
                    case rel => exact ⟨z, acc ++ [(x1, x2)], k, rfl, by omega, by rw [List.length_append, List.length_singleton]; omega, (show Aside _ from HO3.out), (show Aside _ from HB3.out), (show Aside _ from HE.out), (show Aside _ from HSZ.out)⟩
                    case measure => simp only [szV]; omega
                  · have g5 : ((d : Int) == 125) = false := beq_eq_false_iff_ne.2 (by omega)
                    rw [if_neg (show UInt8.ofNat d ≠ 125 from byte_ne (n := 125) hcz (by omega) h5)] at hE
                    have hr := HR0.out hE
                    subst hr
                    clear hE
                    go_wp2_with fail
                    refine (HPA.out _).mono ?_
                    rintro e w2 ⟨rfl, hb⟩
                    obtain ⟨hOW2, hBW2, hs2⟩ := HAPP.out w2 hb
                    have HBW2 := Lib.hid hBW2; clear hBW2 hb
                    have HOW2 := Lib.hid hOW2; clear hOW2
                    go_wp2_with (first
                      | (at_builtin; go_must (refine wpList_append_lb rfl _ _ rfl rfl w.heap.size _ acc rfl (HOW2.out.alloc _) _ 1 [(x1, x2)] rfl (by have := rd_row (w2.alloc (.cells #[.string x1, .string x2] 51)) [.string x1, .string x2] 51; rwa [World.size_alloc] at this) (by simp; omega) (by simp; omega) ?_; intro v3 w3 own3 grow3))
                      | fail)
                    have hb3 : RowKit.Below w.heap.size w w3 := (HBW2.out.alloc HBW2.out.size (.cells #[.string x1, .string x2] 51)).grown grow3 (by have := HBW2.out.size; simp at this ⊢; omega) (fun k h => (HOW2.out.lt k h).1)
                    have HB3 := Lib.hid hb3; clear hb3 grow3
                    have HO3 := Lib.hid own3; clear own3
                    go_wp2
                    go_ret2
                    exact ⟨none, 0, rfl, World.ownsRow_nil _ _ _ _, HB3.out⟩
    · have g1 : ((c : Int) == 123) = false := beq_eq_false_iff_ne.2 (by omega)
      rw [if_neg (show UInt8.ofNat c ≠ 123 from byte_ne (n := 123) hc (by omega) h)] at hL
      have hr := HR0.out hL
      subst hr
      clear hL
      go_enter Tryd.func31, Tryd.ntmps31
      go_wp2_with fail
      refine (HBA.out _).mono ?_
      rintro e w1 ⟨rfl, rfl⟩
      go_wp2
      go_ret2
      exact ⟨none, 0, rfl, World.ownsRow_nil _ _ _ _, Below.refl _ _⟩
end
end Go.Proofs.YtpdbpgebgjgbkaaDoor
