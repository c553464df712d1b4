/-
  The label that a text begins with.
-/
import Derived.Test.YtmicbgcdnkomjaaDoorBh
import Derived.Test.YtmicbgcdnkomjaaDoorUq
namespace Go.Proofs.YtmicbgcdnkomjaaDoor
set_option linter.unusedVariables false
set_option linter.unusedSimpArgs false
open Go.RowKit
theorem extract_head (s : ByteArray) (n : Nat) : s.extract 0 n = mkB ((bl s).take n) := by
  rw [Lib.extract_eq, List.drop_zero, Nat.sub_zero]; rfl
theorem extract_tail (s : ByteArray) (n : Nat) : s.extract n s.size = mkB ((bl s).drop n) := by
  rw [Lib.extract_eq]
  unfold mkB bl
  rw [List.take_of_length_le]
  rw [List.length_drop]
  exact Nat.sub_le_sub_right (Nat.le_of_eq (bl_len s)) n
theorem wordN_le (s : Bs) : wordN s ≤ s.length := by unfold wordN; exact (List.takeWhile_sublist _).length_le
def firstT (o : Option (Lb × Bs)) : Value := match o with
  | none => .tuple #[.agg #[.string ⟨#[]⟩, .string ⟨#[]⟩], .string ⟨#[]⟩, .bool false]
  | some (x, r) => .tuple #[.agg #[.string x.1, .string x.2], .string (mkB r), .bool true]
theorem results_lb3 {fn : Func} {p u v : Tmp} (h : fn.results = #[.cell p 69, .tmp u, .tmp v]) (tmps : Array Value) (w : World) (g : Nat) (cs : Array Value)
    (hp : tmps.getD p undef = .pointer (some ⟨g, 0, none⟩)) (hg : w.heap[g]? = some (.cells cs 69 (0, 0))) (hc : cs.size = 2) :
    (results fn tmps).run Tryd.prog w = .ok (.tuple #[.agg cs, tmps.getD u undef, tmps.getD v undef]) w := by
  have hp' : tmps[p]?.getD undef = .pointer (some ⟨g, 0, none⟩) := by simpa using hp
  simp [results, h, hp', asAddr, run_loadVar_row w g 69 69 cs (0, 0) _ hg Tryd.underlying69 rfl (by rw [hc]; kernel_rfl)]
theorem post_lb3 {fn : Func} {R : Ending → World → Prop} {a : Act} {w : World} {p u v : Tmp} (h : fn.results = #[.cell p 69, .tmp u, .tmp v]) (g : Nat) (cs : Array Value)
    (hp : a.tmps.getD p undef = .pointer (some ⟨g, 0, none⟩)) (hg : w.heap[g]? = some (.cells cs 69 (0, 0))) (hc : cs.size = 2) (hdf : a.defers = [])
    (hR : R (.returned (.tuple #[.agg cs, a.tmps.getD u undef, a.tmps.getD v undef])) w) : bodyPost Tryd.prog fn R .ret a w :=
  bodyPost_ret (results_lb3 h a.tmps w g cs hp hg hc) hdf hR
/-- Two stores into a box of the call's own. -/
theorem box_set {w w1 : World} {x y x' y' : Value} (hb : RowKit.Below (w.alloc (.cells #[x, y] 69)).heap.size (w.alloc (.cells #[x, y] 69)) w1) :
    ((w1.setCell ⟨w.heap.size, 0, none⟩ x').setCell ⟨w.heap.size, 1, none⟩ y').heap[w.heap.size]? = some (.cells #[x', y'] 69 (0, 0)) ∧
      RowKit.Below w.heap.size w ((w1.setCell ⟨w.heap.size, 0, none⟩ x').setCell ⟨w.heap.size, 1, none⟩ y') := by
  have h := (hb.block w.heap.size (by simp)).trans (heap_alloc_new w _)
  refine ⟨set_blk (set_blk h 0 x') 1 y', ?_⟩
  have b0 : RowKit.Below w.heap.size w w1 := ((RowKit.Below.refl _ w).alloc (Nat.le_refl _) _).trans (hb.mono (by simp))
  exact (b0.setCell (p := ⟨w.heap.size, 0, none⟩) (Nat.le_refl _) x').setCell (p := ⟨w.heap.size, 1, none⟩) (Nat.le_refl _) y'
theorem box_facts {w w1 : World} {x y : Value} (hb : RowKit.Below (w.alloc (.cells #[x, y] 69)).heap.size (w.alloc (.cells #[x, y] 69)) w1) :
    w1.cell? ⟨w.heap.size, 0, none⟩ = some x ∧ w1.cell? ⟨w.heap.size, 1, none⟩ = some y ∧ w1.frozen? ⟨w.heap.size, 0, none⟩ = false ∧ w1.frozen? ⟨w.heap.size, 1, none⟩ = false := by
  have h := (hb.block w.heap.size (by simp)).trans (heap_alloc_new w _)
  have h0 := cell_blk h 0
  have h1 := cell_blk h 1
  simp only [List.getElem?_toArray, List.getElem?_cons_zero, List.getElem?_cons_succ] at h0 h1
  exact ⟨h0, h1, free_blk h 0, free_blk h 1⟩
section
set_option maxHeartbeats 1600000
set_option maxRecDepth 100000
theorem first_any (s : ByteArray) (w : World) (hl : s.size ≤ 1000000) : Calls Tryd.prog 70 #[.string s] w fun e w' => e = .returned (firstT (firstP (bl s))) ∧ Below w.heap.size w w' := by
  obtain ⟨n, hn⟩ : ∃ n, n = wordN (bl s) := ⟨_, rfl⟩
  have hns : n ≤ s.size := by rw [hn, ← bl_len]; exact wordN_le _
  have hnb := fun W => nb_any s W hl
  rw [← hn] at hnb
  obtain ⟨F, hF⟩ : ∃ F, F = firstP (bl s) := ⟨_, rfl⟩
  rw [← hF]
  unfold firstP at hF
  rw [← hn] at hF
  have hbe := fun W => behind_any (s.extract n s.size) 61 W
  rw [extract_tail, bl_mk, ← extract_tail] at hbe
  have HNB := Lib.hid hnb; clear hnb
  have k0 : (0 : Int) ≤ (n : Int) := by omega
  have k1 : (n : Int) ≤ (s.size : Int) := by omega
  obtain ⟨t, ht⟩ : ∃ t, t = bareP ((bl s).drop n) := ⟨_, rfl⟩
  rw [← ht] at hbe hF
  have htl : t.length ≤ s.size := by rw [ht]; refine Nat.le_trans (bareP_le _) ?_; rw [List.length_drop, bl_len]; omega
  have HN := Lib.hid hn; clear hn ht
  cases hm : markP 61 t with
  | none =>
    rw [hm] at hbe hF
    simp only at hF
    subst hF
    have HB := Lib.hid hbe; clear hbe
    unfold behT at HB
    simp only at HB
    generalize mkB t = tb at HB
    unfold firstT
    simp only
    clear hm htl
    by_cases hz : n = 0
    · have g0 : ((n : Int) == 0) = true := by rw [beq_iff_eq]; omega
      clear hz
      go_enter Tryd.func70, Tryd.ntmps70
      go_wp2_with fail
      refine (HNB.out _).mono ?_
      rintro e w1 ⟨rfl, hb⟩
      obtain ⟨d0, d1, f0, f1⟩ := box_facts hb
      have HB1 := Lib.hid hb; clear hb
      go_wp2_with fail
      with_reducible refine (HB.out _).mono ?_
      rintro e w2 ⟨rfl, rfl⟩
      go_wp2
      obtain ⟨r1, r2⟩ := box_set (x' := .string ⟨#[]⟩) (y' := .string ⟨#[]⟩) HB1.out
      exact post_lb3 rfl _ _ rfl r1 rfl rfl ⟨rfl, r2⟩
    · have g0 : ((n : Int) == 0) = false := beq_eq_false_iff_ne.2 (by omega)
      clear hz
      go_enter Tryd.func70, Tryd.ntmps70
      go_wp2_with fail
      refine (HNB.out _).mono ?_
      rintro e w1 ⟨rfl, hb⟩
      obtain ⟨d0, d1, f0, f1⟩ := box_facts hb
      have HB1 := Lib.hid hb; clear hb
      go_wp2_with fail
      with_reducible refine (HB.out _).mono ?_
      rintro e w2 ⟨rfl, rfl⟩
      go_wp2
      obtain ⟨r1, r2⟩ := box_set (x' := .string ⟨#[]⟩) (y' := .string ⟨#[]⟩) HB1.out
      exact post_lb3 rfl _ _ rfl r1 rfl rfl ⟨rfl, r2⟩
  | some r =>
    have hrl : r.length ≤ s.size := by have := markP_lt hm; omega
    rw [hm] at hbe hF
    simp only at hF
    have HB := Lib.hid hbe; clear hbe
    unfold behT at HB
    simp only at HB
    by_cases hz : n = 0
    · rw [if_pos hz] at hF
      subst hF
      unfold firstT
      simp only
      have g0 : ((n : Int) == 0) = true := by rw [beq_iff_eq]; omega
      generalize mkB r = rb at HB
      clear hm
      clear hz
      go_enter Tryd.func70, Tryd.ntmps70
      go_wp2_with fail
      refine (HNB.out _).mono ?_
      rintro e w1 ⟨rfl, hb⟩
      obtain ⟨d0, d1, f0, f1⟩ := box_facts hb
      have HB1 := Lib.hid hb; clear hb
      go_wp2_with fail
      with_reducible refine (HB.out _).mono ?_
      rintro e w2 ⟨rfl, rfl⟩
      go_wp2
      obtain ⟨r1, r2⟩ := box_set (x' := .string ⟨#[]⟩) (y' := .string ⟨#[]⟩) HB1.out
      exact post_lb3 rfl _ _ rfl r1 rfl rfl ⟨rfl, r2⟩
    · rw [if_neg hz] at hF
      have g0 : ((n : Int) == 0) = false := beq_eq_false_iff_ne.2 (by omega)
      have hu := fun W => unq_any (mkB r) W (by rw [mkB_size]; omega)
      rw [bl_mk] at hu
      have hle := unqP_le (s := r)
      generalize hU : unqP r = U at hu hF hle
      obtain ⟨v, m, e⟩ := U
      simp only at hu hF hle
      have htail : mkB (r.drop m) = (mkB r).extract m (mkB r).size := by rw [extract_tail, bl_mk]
      have hhead := extract_head s n
      have HU := Lib.hid hu; clear hu hU
      have hrs : (mkB r).size = r.length := mkB_size r
      by_cases he : e = 0
      · subst he
        simp only [ne_eq, not_true_eq_false, if_false] at hF
        subst hF
        unfold firstT
        simp only
        rw [← hhead, htail]
        have hm2 := hle rfl
        generalize mkB r = rb at HB HU hrs ⊢
        generalize mkB v = vb at HU ⊢
        have m0 : (0 : Int) ≤ (m : Int) := by omega
        have m1 : (m : Int) ≤ (rb.size : Int) := by omega
        clear hm hhead htail hle hrs
        clear hz
        go_enter Tryd.func70, Tryd.ntmps70
        go_wp2_with fail
        refine (HNB.out _).mono ?_
        rintro e w1 ⟨rfl, hb⟩
        obtain ⟨d0, d1, f0, f1⟩ := box_facts hb
        have HB1 := Lib.hid hb; clear hb
        go_wp2_with fail
        with_reducible refine (HB.out _).mono ?_
        rintro e w2 ⟨rfl, rfl⟩
        go_wp2_with fail
        refine (HU.out _).mono ?_
        rintro e w3 ⟨rfl, hb3⟩
        have HB2 := Lib.hid (HB1.out.trans (hb3.mono HB1.out.size)); clear hb3
        obtain ⟨d0, d1, f0, f1⟩ := box_facts HB2.out
        go_wp2_with fail
        have HB3 := Lib.hid HB2.out
        clear HNB HB HU
        go_region
        go_wp2
        obtain ⟨r1, r2⟩ := box_set (x' := .string (s.extract 0 n)) (y' := .string vb) HB3.out
        exact post_lb3 rfl _ _ rfl r1 rfl rfl ⟨rfl, r2.drew⟩
      · have hF : F = none := by rw [hF]; simp [he]
        subst hF
        unfold firstT
        simp only
        generalize mkB r = rb at HB HU
        generalize mkB v = vb at HU
        have g1 : ((e : Int) != 0) = true := by rw [bne_iff_ne]; omega
        clear hm hhead htail hle hrs hz
        go_enter Tryd.func70, Tryd.ntmps70
        go_wp2_with fail
        refine (HNB.out _).mono ?_
        rintro e w1 ⟨rfl, hb⟩
        obtain ⟨d0, d1, f0, f1⟩ := box_facts hb
        have HB1 := Lib.hid hb; clear hb
        go_wp2_with fail
        with_reducible refine (HB.out _).mono ?_
        rintro e w2 ⟨rfl, rfl⟩
        go_wp2_with fail
        refine (HU.out _).mono ?_
        rintro e w3 ⟨rfl, hb3⟩
        have HB2 := Lib.hid (HB1.out.trans (hb3.mono HB1.out.size)); clear hb3
        clear d0 d1 f0 f1
        obtain ⟨d0, d1, f0, f1⟩ := box_facts HB2.out
        go_wp2
        obtain ⟨r1, r2⟩ := box_set (x' := .string ⟨#[]⟩) (y' := .string ⟨#[]⟩) HB2.out
        exact post_lb3 rfl _ _ rfl r1 rfl rfl ⟨rfl, r2⟩
end
end Go.Proofs.YtmicbgcdnkomjaaDoor
