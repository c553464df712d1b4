/-
  Marks in a text with blanks around them, and how many bytes of a name stand there.
  The label that a text begins with.
-/
import Derived.Test.YtgibcfeioljofaaGreatDoorLb
import Derived.Test.YtgibcfeioljofaaGreatDoorNa
import Derived.Test.YtgibcfeioljofaaGreatDoorShelf
import Derived.Test.YtgibcfeioljofaaGreatDoorUq
namespace Go.Proofs.YtgibcfeioljofaaGreatDoor
set_option linter.unusedVariables false
set_option linter.unusedSimpArgs false
section
set_option linter.unusedVariables false
set_option linter.unusedSimpArgs false
open Go.RowKit
def behT (o : Option Bs) (s : Bs) : Value := match o with
  | some r => .tuple #[.string (mkB r), .bool true]
  | none => .tuple #[.string (mkB s), .bool false]
theorem trimB (l : Bs) : Lib.trimLeftB l 32 = bareP l := by
  unfold Lib.trimLeftB bareP
  congr 1
theorem prefix_one (l : Bs) (m : UInt8) : (Lib.hasPrefix l [m] = true ∧ ∃ r, l = m :: r ∧ Lib.trimPrefix l [m] = r ∧ markP m l = some (bareP r)) ∨ (Lib.hasPrefix l [m] = false ∧ Lib.trimPrefix l [m] = l ∧ markP m l = none) := by
  cases l with
  | nil => right; exact ⟨rfl, rfl, rfl⟩
  | cons c r =>
    have hp : Lib.hasPrefix (c :: r) [m] = (m == c) := by simp [Lib.hasPrefix, List.isPrefixOf]
    by_cases h : c = m
    · subst h
      left
      refine ⟨by rw [hp]; simp, r, rfl, ?_, ?_⟩
      · unfold Lib.trimPrefix; rw [hp]; simp
      · rw [markP_cons, if_pos rfl]
    · right
      have hf : (m == c) = false := by simpa using fun e => h e.symm
      refine ⟨by rw [hp, hf], ?_, ?_⟩
      · unfold Lib.trimPrefix; rw [hp, hf]; simp
      · rw [markP_cons, if_neg h]
section
set_option maxHeartbeats 1600000
set_option maxRecDepth 100000
theorem trim_any (s : ByteArray) (w : World) : Calls Tryz.prog 87 #[.string s, .string ⟨#[32]⟩] w fun e w' => e = .returned (.string (mkB (bareP (bl s)))) ∧ w' = w := by
  have h := Tryz.strings_TrimLeft_one s 32 (by decide) w
  rw [trimB] at h
  exact h
theorem behind_any (s : ByteArray) (m : UInt8) (w : World) : Calls Tryz.prog 55 #[.string s, .string ⟨#[m]⟩] w fun e w' => e = .returned (behT (markP m (bareP (bl s))) (bareP (bl s))) ∧ w = w' := by
  have ht := fun W => trim_any s W
  obtain ⟨t, htt⟩ : ∃ t, t = mkB (bareP (bl s)) := ⟨_, rfl⟩
  have htb : bl t = bareP (bl s) := by rw [htt, bl_mk]
  simp only [← htt] at ht
  have hbare : bareP (bl t) = bl t := by rw [htb, bareP_bare]
  rw [← htb]
  have hc := fun W => Tryz.strings_CutPrefix t ⟨#[m]⟩ W
  have HT := Lib.hid ht; clear ht htt htb
  rcases prefix_one (bl t) m with ⟨h1, r, h2, h3, h4⟩ | ⟨h1, h2, h3⟩
  · rw [h4]
    have hc2 : ∀ W, Calls Tryz.prog 86 #[.string t, .string ⟨#[m]⟩] W fun e w' => e = .returned (.tuple #[.string (mkB r), .bool true]) ∧ w' = W := fun W => by
      have := hc W
      rw [show Lib.trimPrefix t.data.toList (⟨#[m]⟩ : ByteArray).data.toList = r from h3, show Lib.hasPrefix t.data.toList (⟨#[m]⟩ : ByteArray).data.toList = true from h1] at this
      exact this
    have ht2 := fun W => trim_any (mkB r) W
    simp only [bl_mk] at ht2
    have HC := Lib.hid hc2; clear hc hc2 h1 h2 h3 h4 hbare
    have HT2 := Lib.hid ht2; clear ht2
    unfold behT
    simp only
    generalize mkB r = rb at HC HT2
    generalize mkB (bareP r) = ra at HT2 ⊢
    go_enter Tryz.func55, Tryz.ntmps55
    go_wp2_with fail
    refine (HT.out _).mono ?_
    rintro e w1 ⟨rfl, rfl⟩
    go_wp2_with fail
    refine (HC.out _).mono ?_
    rintro e w1 ⟨rfl, rfl⟩
    go_wp2_with fail
    refine (HT2.out _).mono ?_
    rintro e w1 ⟨rfl, rfl⟩
    go_wp2
    go_ret2
    exact ⟨rfl, rfl⟩
  · rw [h3]
    have hc2 : ∀ W, Calls Tryz.prog 86 #[.string t, .string ⟨#[m]⟩] W fun e w' => e = .returned (.tuple #[.string t, .bool false]) ∧ w' = W := fun W => by
      have := hc W
      rw [show Lib.trimPrefix t.data.toList (⟨#[m]⟩ : ByteArray).data.toList = bl t from h2, show Lib.hasPrefix t.data.toList (⟨#[m]⟩ : ByteArray).data.toList = false from h1] at this
      rw [show (⟨(bl t).toArray⟩ : ByteArray) = t from mk_bl t] at this
      exact this
    have ht2 := fun W => trim_any t W
    simp only [hbare, mk_bl] at ht2
    have HC := Lib.hid hc2; clear hc hc2 h1 h2 h3 hbare
    have HT2 := Lib.hid ht2; clear ht2
    unfold behT
    simp only [mk_bl]
    go_enter Tryz.func55, Tryz.ntmps55
    go_wp2_with fail
    refine (HT.out _).mono ?_
    rintro e w1 ⟨rfl, rfl⟩
    go_wp2_with fail
    refine (HC.out _).mono ?_
    rintro e w1 ⟨rfl, rfl⟩
    go_wp2_with fail
    refine (HT2.out _).mono ?_
    rintro e w1 ⟨rfl, rfl⟩
    go_wp2
    go_ret2
    exact ⟨rfl, rfl⟩
theorem nb_any (s : ByteArray) (w : World) (hl : s.size ≤ 1000000) : Calls Tryz.prog 88 #[.string s] w fun e w' => e = .returned (.int .i64 (wordN (bl s) : Nat)) ∧ Below w.heap.size w w' := by
  obtain ⟨R, hR⟩ : ∃ R, R = wordN (bl s) := ⟨_, rfl⟩
  rw [← hR]
  have hst : R = 0 + wordN ((bl s).drop 0) := by rw [hR]; simp
  have HST := Lib.hid hst; clear hst hR
  go_enter Tryz.func88, Tryz.ntmps88
  go_wp2
  go_loopw [] (fun wr => ∃ pos : Nat, wr = w.iter s pos ∧ pos ≤ s.size ∧ Aside (R = pos + wordN ((bl s).drop pos))) (fun wr => s.size - wr.iterPos w.heap.size)
  case atStart => exact ⟨0, rfl, by omega, HST.out⟩
  case round =>
    obtain ⟨pos, rfl, hp, E⟩ := hrel
    by_cases hlt : pos < s.size
    · have hlt' : pos < (bl s).length := by rw [bl_len]; exact hlt
      have hd : (bl s).drop pos = s[pos]'hlt :: (bl s).drop (pos + 1) := by rw [List.drop_eq_getElem_cons hlt', get_bl s hlt]
      have hbw : RowKit.Below w.heap.size w (w.iter s (pos + 1)) := (RowKit.Below.refl _ w).alloc (Nat.le_refl _) _
      have hE : R = pos + (if letterN (s[pos]'hlt).toNat = true then wordN ((bl s).drop (pos + 1)) + 1 else 0) := by rw [E.out, hd, wordN_cons]
      clear hd
      by_cases hc : (s[pos]'hlt).toNat < 128
      · have hnx : ∀ ty, (Instr.next (.pointer (some ⟨w.heap.size, 0, none⟩)) true ty).run Tryz.prog (w.iter s pos) = _ := fun ty => run_next_ascii w s pos ty hlt hc
        generalize (s[pos]'hlt).toNat = c at hnx hc hE
        have BW := Lib.hid hbw; clear hbw E
        have hcall := inName_any c (w.iter s (pos + 1))
        cases hL : letterN c with
        | false =>
          rw [hL] at hcall hE
          have HC := Lib.hid hcall; clear hcall
          have hr : R = pos := by simpa using hE
          subst hr
          clear hE hL
          go_wp2_with (first | (go_at_call 102; refine HC.out.mono ?_; rintro e w1 ⟨rfl, rfl⟩) | fail)
          go_ret
          exact ⟨rfl, BW.out⟩
        | true =>
          rw [hL] at hcall hE
          have HC := Lib.hid hcall; clear hcall
          have hr : R = (pos + 1) + wordN ((bl s).drop (pos + 1)) := by rw [hE, if_pos rfl]; omega
          have HR := Lib.hid hr; clear hr hE hL
          go_wp2_with (first | (go_at_call 102; refine HC.out.mono ?_; rintro e w1 ⟨rfl, rfl⟩) | fail)
          go_roundw
          case rel => exact ⟨pos + 1, rfl, by omega, (show Aside _ from HR.out)⟩
          case measure => simp; omega
      · have hnx : ∀ ty, (Instr.next (.pointer (some ⟨w.heap.size, 0, none⟩)) true ty).run Tryz.prog (w.iter s pos) = _ := fun ty => run_next_any w s pos ty hlt
        obtain ⟨hr128, -⟩ := decode_high s pos hlt (by omega)
        have hbw : RowKit.Below w.heap.size w (w.iter s (pos + (Utf8.decode s pos).2)) := (RowKit.Below.refl _ w).alloc (Nat.le_refl _) _
        have hf : letterN (s[pos]'hlt).toNat = false := by cases h : letterN (s[pos]'hlt).toNat with | false => rfl | true => exact absurd (letter_lt h) hc
        rw [hf] at hE
        have hr : R = pos := by simpa using hE
        subst hr
        obtain ⟨r, hrr⟩ : ∃ r, r = (Utf8.decode s R).1 := ⟨_, rfl⟩
        obtain ⟨wd, hwd⟩ : ∃ wd, wd = (Utf8.decode s R).2 := ⟨_, rfl⟩
        rw [← hrr] at hr128
        rw [← hwd] at hbw
        rw [← hrr, ← hwd] at hnx
        have BW := Lib.hid hbw; clear hbw hrr hwd hE hf E
        have hcall := inName_any r (w.iter s (R + wd))
        rw [show letterN r = false by cases h : letterN r with | false => rfl | true => exact absurd (letter_lt h) (by omega)] at hcall
        have HC := Lib.hid hcall; clear hcall
        go_wp2_with (first | (go_at_call 102; refine HC.out.mono ?_; rintro e w1 ⟨rfl, rfl⟩) | fail)
        go_ret
        exact ⟨rfl, BW.out⟩
    · have hnx : ∀ ty, (Instr.next (.pointer (some ⟨w.heap.size, 0, none⟩)) true ty).run Tryz.prog (w.iter s pos) = _ := fun ty => run_next_end w s pos ty hlt
      obtain rfl : pos = s.size := by omega
      have hr : R = s.size := by rw [E.out, ← bl_len, List.drop_length]; rfl
      subst hr
      go_wp2
      go_ret
      exact ⟨rfl, (RowKit.Below.refl _ w).alloc (Nat.le_refl _) _⟩
end
end
section
set_option linter.unusedVariables false
set_option linter.unusedSimpArgs false
open Go.RowKit
theorem extract_head (s : ByteArray) (n : Nat) : s.extract 0 n = mkB ((bl s).take n) := by
  rw [Lib.extract_eq, List.drop_zero, Nat.sub_zero]; rfl
theorem extract_tail (s : ByteArray) (n : Nat) : s.extract n s.size = mkB ((bl s).drop n) := by
  rw [Lib.extract_eq]
  unfold mkB bl
  rw [List.take_of_length_le]
  rw [List.length_drop]
  exact Nat.sub_le_sub_right (Nat.le_of_eq (bl_len s)) n
theorem wordN_le (s : Bs) : wordN s ≤ s.length := by unfold wordN; exact (List.takeWhile_sublist _).length_le
def firstT (o : Option (Lb × Bs)) : Value := match o with
  | none => .tuple #[.agg #[.string ⟨#[]⟩, .string ⟨#[]⟩], .string ⟨#[]⟩, .bool false]
  | some (x, r) => .tuple #[.agg #[.string x.1, .string x.2], .string (mkB r), .bool true]
theorem results_lb3 {fn : Func} {p u v : Tmp} (h : fn.results = #[.cell p 26, .tmp u, .tmp v]) (tmps : Array Value) (w : World) (g : Nat) (cs : Array Value)
    (hp : tmps.getD p undef = .pointer (some ⟨g, 0, none⟩)) (hg : w.heap[g]? = some (.cells cs 26 (0, 0))) (hc : cs.size = 2) :
    (results fn tmps).run Tryz.prog w = .ok (.tuple #[.agg cs, tmps.getD u undef, tmps.getD v undef]) w := by
  have hp' : tmps[p]?.getD undef = .pointer (some ⟨g, 0, none⟩) := by simpa using hp
  simp [results, h, hp', asAddr, run_loadVar_row w g 26 26 cs (0, 0) _ hg Tryz.underlying26 rfl (by rw [hc]; kernel_rfl)]
theorem post_lb3 {fn : Func} {R : Ending → World → Prop} {a : Act} {w : World} {p u v : Tmp} (h : fn.results = #[.cell p 26, .tmp u, .tmp v]) (g : Nat) (cs : Array Value)
    (hp : a.tmps.getD p undef = .pointer (some ⟨g, 0, none⟩)) (hg : w.heap[g]? = some (.cells cs 26 (0, 0))) (hc : cs.size = 2) (hdf : a.defers = [])
    (hR : R (.returned (.tuple #[.agg cs, a.tmps.getD u undef, a.tmps.getD v undef])) w) : bodyPost Tryz.prog fn R .ret a w :=
  bodyPost_ret (results_lb3 h a.tmps w g cs hp hg hc) hdf hR
/-- Two stores into a box of the call's own. -/
theorem box_set {w w1 : World} {x y x' y' : Value} (hb : RowKit.Below (w.alloc (.cells #[x, y] 26)).heap.size (w.alloc (.cells #[x, y] 26)) w1) :
    ((w1.setCell ⟨w.heap.size, 0, none⟩ x').setCell ⟨w.heap.size, 1, none⟩ y').heap[w.heap.size]? = some (.cells #[x', y'] 26 (0, 0)) ∧
      RowKit.Below w.heap.size w ((w1.setCell ⟨w.heap.size, 0, none⟩ x').setCell ⟨w.heap.size, 1, none⟩ y') := by
  have h := (hb.block w.heap.size (by simp)).trans (heap_alloc_new w _)
  refine ⟨set_blk (set_blk h 0 x') 1 y', ?_⟩
  have b0 : RowKit.Below w.heap.size w w1 := ((RowKit.Below.refl _ w).alloc (Nat.le_refl _) _).trans (hb.mono (by simp))
  exact (b0.setCell (p := ⟨w.heap.size, 0, none⟩) (Nat.le_refl _) x').setCell (p := ⟨w.heap.size, 1, none⟩) (Nat.le_refl _) y'
theorem box_facts {w w1 : World} {x y : Value} (hb : RowKit.Below (w.alloc (.cells #[x, y] 26)).heap.size (w.alloc (.cells #[x, y] 26)) w1) :
    w1.cell? ⟨w.heap.size, 0, none⟩ = some x ∧ w1.cell? ⟨w.heap.size, 1, none⟩ = some y ∧ w1.frozen? ⟨w.heap.size, 0, none⟩ = false ∧ w1.frozen? ⟨w.heap.size, 1, none⟩ = false := by
  have h := (hb.block w.heap.size (by simp)).trans (heap_alloc_new w _)
  have h0 := cell_blk h 0
  have h1 := cell_blk h 1
  simp only [List.getElem?_toArray, List.getElem?_cons_zero, List.getElem?_cons_succ] at h0 h1
  exact ⟨h0, h1, free_blk h 0, free_blk h 1⟩
section
set_option maxHeartbeats 1600000
set_option maxRecDepth 100000
theorem first_any (s : ByteArray) (w : World) (hl : s.size ≤ 1000000) : Calls Tryz.prog 56 #[.string s] w fun e w' => e = .returned (firstT (firstP (bl s))) ∧ Below w.heap.size w w' := by
  obtain ⟨n, hn⟩ : ∃ n, n = wordN (bl s) := ⟨_, rfl⟩
  have hns : n ≤ s.size := by rw [hn, ← bl_len]; exact wordN_le _
  have hnb := fun W => nb_any s W hl
  rw [← hn] at hnb
  obtain ⟨F, hF⟩ : ∃ F, F = firstP (bl s) := ⟨_, rfl⟩
  rw [← hF]
  unfold firstP at hF
  rw [← hn] at hF
  have hbe := fun W => behind_any (s.extract n s.size) 61 W
  rw [extract_tail, bl_mk, ← extract_tail] at hbe
  have HNB := Lib.hid hnb; clear hnb
  have k0 : (0 : Int) ≤ (n : Int) := by omega
  have k1 : (n : Int) ≤ (s.size : Int) := by omega
  obtain ⟨t, ht⟩ : ∃ t, t = bareP ((bl s).drop n) := ⟨_, rfl⟩
  rw [← ht] at hbe hF
  have htl : t.length ≤ s.size := by rw [ht]; refine Nat.le_trans (bareP_le _) ?_; rw [List.length_drop, bl_len]; omega
  have HN := Lib.hid hn; clear hn ht
  cases hm : markP 61 t with
  | none =>
    rw [hm] at hbe hF
    simp only at hF
    subst hF
    have HB := Lib.hid hbe; clear hbe
    unfold behT at HB
    simp only at HB
    generalize mkB t = tb at HB
    unfold firstT
    simp only
    clear hm htl
    by_cases hz : n = 0
    · have g0 : ((n : Int) == 0) = true := by rw [beq_iff_eq]; omega
      clear hz
      go_enter Tryz.func56, Tryz.ntmps56
      go_wp2_with fail
      refine (HNB.out _).mono ?_
      rintro e w1 ⟨rfl, hb⟩
      obtain ⟨d0, d1, f0, f1⟩ := box_facts hb
      have HB1 := Lib.hid hb; clear hb
      go_wp2_with fail
      with_reducible refine (HB.out _).mono ?_
      rintro e w2 ⟨rfl, rfl⟩
      go_wp2
      obtain ⟨r1, r2⟩ := box_set (x' := .string ⟨#[]⟩) (y' := .string ⟨#[]⟩) HB1.out
      exact post_lb3 rfl _ _ rfl r1 rfl rfl ⟨rfl, r2⟩
    · have g0 : ((n : Int) == 0) = false := beq_eq_false_iff_ne.2 (by omega)
      clear hz
      go_enter Tryz.func56, Tryz.ntmps56
      go_wp2_with fail
      refine (HNB.out _).mono ?_
      rintro e w1 ⟨rfl, hb⟩
      obtain ⟨d0, d1, f0, f1⟩ := box_facts hb
      have HB1 := Lib.hid hb; clear hb
      go_wp2_with fail
      with_reducible refine (HB.out _).mono ?_
      rintro e w2 ⟨rfl, rfl⟩
      go_wp2
      obtain ⟨r1, r2⟩ := box_set (x' := .string ⟨#[]⟩) (y' := .string ⟨#[]⟩) HB1.out
      exact post_lb3 rfl _ _ rfl r1 rfl rfl ⟨rfl, r2⟩
  | some r =>
    have hrl : r.length ≤ s.size := by have := markP_lt hm; omega
    rw [hm] at hbe hF
    simp only at hF
    have HB := Lib.hid hbe; clear hbe
    unfold behT at HB
    simp only at HB
    by_cases hz : n = 0
    · rw [if_pos hz] at hF
      subst hF
      unfold firstT
      simp only
      have g0 : ((n : Int) == 0) = true := by rw [beq_iff_eq]; omega
      generalize mkB r = rb at HB
      clear hm
      clear hz
      go_enter Tryz.func56, Tryz.ntmps56
      go_wp2_with fail
      refine (HNB.out _).mono ?_
      rintro e w1 ⟨rfl, hb⟩
      obtain ⟨d0, d1, f0, f1⟩ := box_facts hb
      have HB1 := Lib.hid hb; clear hb
      go_wp2_with fail
      with_reducible refine (HB.out _).mono ?_
      rintro e w2 ⟨rfl, rfl⟩
      go_wp2
      obtain ⟨r1, r2⟩ := box_set (x' := .string ⟨#[]⟩) (y' := .string ⟨#[]⟩) HB1.out
      exact post_lb3 rfl _ _ rfl r1 rfl rfl ⟨rfl, r2⟩
    · rw [if_neg hz] at hF
      have g0 : ((n : Int) == 0) = false := beq_eq_false_iff_ne.2 (by omega)
      have hu := fun W => unq_any (mkB r) W (by rw [mkB_size]; omega)
      rw [bl_mk] at hu
      have hle := unqP_le (s := r)
      generalize hU : unqP r = U at hu hF hle
      obtain ⟨v, m, e⟩ := U
      simp only at hu hF hle
      have htail : mkB (r.drop m) = (mkB r).extract m (mkB r).size := by rw [extract_tail, bl_mk]
      have hhead := extract_head s n
      have HU := Lib.hid hu; clear hu hU
      have hrs : (mkB r).size = r.length := mkB_size r
      by_cases he : e = 0
      · subst he
        simp only [ne_eq, not_true_eq_false, if_false] at hF
        subst hF
        unfold firstT
        simp only
        rw [← hhead, htail]
        have hm2 := hle rfl
        generalize mkB r = rb at HB HU hrs ⊢
        generalize mkB v = vb at HU ⊢
        have m0 : (0 : Int) ≤ (m : Int) := by omega
        have m1 : (m : Int) ≤ (rb.size : Int) := by omega
        clear hm hhead htail hle hrs
        clear hz
        go_enter Tryz.func56, Tryz.ntmps56
        go_wp2_with fail
        refine (HNB.out _).mono ?_
        rintro e w1 ⟨rfl, hb⟩
        obtain ⟨d0, d1, f0, f1⟩ := box_facts hb
        have HB1 := Lib.hid hb; clear hb
        go_wp2_with fail
        with_reducible refine (HB.out _).mono ?_
        rintro e w2 ⟨rfl, rfl⟩
        go_wp2_with fail
        refine (HU.out _).mono ?_
        rintro e w3 ⟨rfl, hb3⟩
        have HB2 := Lib.hid (HB1.out.trans (hb3.mono HB1.out.size)); clear hb3
        obtain ⟨d0, d1, f0, f1⟩ := box_facts HB2.out
        go_wp2_with fail
        have HB3 := Lib.hid HB2.out
        clear HNB HB HU
        go_region
        go_wp2
        obtain ⟨r1, r2⟩ := box_set (x' := .string (s.extract 0 n)) (y' := .string vb) HB3.out
        exact post_lb3 rfl _ _ rfl r1 rfl rfl ⟨rfl, r2.drew⟩
      · have hF : F = none := by rw [hF]; simp [he]
        subst hF
        unfold firstT
        simp only
        generalize mkB r = rb at HB HU
        generalize mkB v = vb at HU
        have g1 : ((e : Int) != 0) = true := by rw [bne_iff_ne]; omega
        clear hm hhead htail hle hrs hz
        go_enter Tryz.func56, Tryz.ntmps56
        go_wp2_with fail
        refine (HNB.out _).mono ?_
        rintro e w1 ⟨rfl, hb⟩
        obtain ⟨d0, d1, f0, f1⟩ := box_facts hb
        have HB1 := Lib.hid hb; clear hb
        go_wp2_with fail
        with_reducible refine (HB.out _).mono ?_
        rintro e w2 ⟨rfl, rfl⟩
        go_wp2_with fail
        refine (HU.out _).mono ?_
        rintro e w3 ⟨rfl, hb3⟩
        have HB2 := Lib.hid (HB1.out.trans (hb3.mono HB1.out.size)); clear hb3
        clear d0 d1 f0 f1
        obtain ⟨d0, d1, f0, f1⟩ := box_facts HB2.out
        go_wp2
        obtain ⟨r1, r2⟩ := box_set (x' := .string ⟨#[]⟩) (y' := .string ⟨#[]⟩) HB2.out
        exact post_lb3 rfl _ _ rfl r1 rfl rfl ⟨rfl, r2⟩
end
end
end Go.Proofs.YtgibcfeioljofaaGreatDoor
