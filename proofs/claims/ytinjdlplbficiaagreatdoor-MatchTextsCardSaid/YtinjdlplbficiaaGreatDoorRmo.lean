/-
  The plain answers: the matcher that a text begins with.
-/
import Derived.Test.YtinjdlplbficiaaGreatDoorRmu
namespace Go.Proofs.YtinjdlplbficiaaGreatDoor
set_option linter.unusedVariables false
set_option linter.unusedSimpArgs false
open Go.RowKit
def oneRT (o : Option (Mt' × Bs)) : Value := match o with
  | none => .tuple #[.agg #[.int .i64 0, .string ⟨#[]⟩, .string ⟨#[]⟩], .string ⟨#[]⟩, .bool false]
  | some (m, r) => .tuple #[.agg #[.int .i64 m.1, .string m.2.1, .string m.2.2], .string (mkB r), .bool true]
theorem results_mt3 {fn : Func} {p u v : Tmp} (h : fn.results = #[.cell p 37, .tmp u, .tmp v]) (tmps : Array Value) (w : World) (g : Nat) (cs : Array Value)
    (hp : tmps.getD p undef = .pointer (some ⟨g, 0, none⟩)) (hg : w.heap[g]? = some (.cells cs 37 (0, 0))) (hc : cs.size = 3) :
    (results fn tmps).run Tryz.prog w = .ok (.tuple #[.agg cs, tmps.getD u undef, tmps.getD v undef]) w := by
  have hp' : tmps[p]?.getD undef = .pointer (some ⟨g, 0, none⟩) := by simpa using hp
  simp [results, h, hp', asAddr, run_loadVar_row w g 37 37 cs (0, 0) _ hg Tryz.underlying37 rfl (by rw [hc]; kernel_rfl)]
theorem post_mt3 {fn : Func} {R : Ending → World → Prop} {a : Act} {w : World} {p u v : Tmp} (h : fn.results = #[.cell p 37, .tmp u, .tmp v]) (g : Nat) (cs : Array Value)
    (hp : a.tmps.getD p undef = .pointer (some ⟨g, 0, none⟩)) (hg : w.heap[g]? = some (.cells cs 37 (0, 0))) (hc : cs.size = 3) (hdf : a.defers = [])
    (hR : R (.returned (.tuple #[.agg cs, a.tmps.getD u undef, a.tmps.getD v undef])) w) : bodyPost Tryz.prog fn R .ret a w :=
  bodyPost_ret (results_mt3 h a.tmps w g cs hp hg hc) hdf hR
theorem mbox_set {w w1 : World} {x y z x' y' z' : Value} (hb : RowKit.Below (w.alloc (.cells #[x, y, z] 37)).heap.size (w.alloc (.cells #[x, y, z] 37)) w1) :
    (((w1.setCell ⟨w.heap.size, 0, none⟩ x').setCell ⟨w.heap.size, 1, none⟩ y').setCell ⟨w.heap.size, 2, none⟩ z').heap[w.heap.size]? = some (.cells #[x', y', z'] 37 (0, 0)) ∧
      RowKit.Below w.heap.size w (((w1.setCell ⟨w.heap.size, 0, none⟩ x').setCell ⟨w.heap.size, 1, none⟩ y').setCell ⟨w.heap.size, 2, none⟩ z') := by
  have h := (hb.block w.heap.size (by simp)).trans (heap_alloc_new w _)
  refine ⟨set_blk (set_blk (set_blk h 0 x') 1 y') 2 z', ?_⟩
  have b0 : RowKit.Below w.heap.size w w1 := ((RowKit.Below.refl _ w).alloc (Nat.le_refl _) _).trans (hb.mono (by simp))
  exact ((b0.setCell (p := ⟨w.heap.size, 0, none⟩) (Nat.le_refl _) x').setCell (p := ⟨w.heap.size, 1, none⟩) (Nat.le_refl _) y').setCell (p := ⟨w.heap.size, 2, none⟩) (Nat.le_refl _) z'
theorem mbox_facts {w w1 : World} {x y z : Value} (hb : RowKit.Below (w.alloc (.cells #[x, y, z] 37)).heap.size (w.alloc (.cells #[x, y, z] 37)) w1) :
    w1.cell? ⟨w.heap.size, 0, none⟩ = some x ∧ w1.cell? ⟨w.heap.size, 1, none⟩ = some y ∧ w1.cell? ⟨w.heap.size, 2, none⟩ = some z ∧ w1.frozen? ⟨w.heap.size, 0, none⟩ = false ∧ w1.frozen? ⟨w.heap.size, 1, none⟩ = false ∧ w1.frozen? ⟨w.heap.size, 2, none⟩ = false := by
  have h := (hb.block w.heap.size (by simp)).trans (heap_alloc_new w _)
  have h0 := cell_blk h 0
  have h1 := cell_blk h 1
  have h2 := cell_blk h 2
  simp only [List.getElem?_toArray, List.getElem?_cons_zero, List.getElem?_cons_succ] at h0 h1 h2
  exact ⟨h0, h1, h2, free_blk h 0, free_blk h 1, free_blk h 2⟩
theorem signF_pos {s r : Bs} {k : Nat} (h : signF s = some (k, r)) : k ≠ 0 ∧ r.length ≤ s.length := by
  unfold signF at h
  split at h
  all_goals first
    | (cases h; done)
    | (injection h with h; injection h with h1 h2; subst h1; subst h2; refine ⟨by decide, ?_⟩; simp only [List.length_cons]; omega)
section
set_option maxHeartbeats 1600000
set_option maxRecDepth 100000
theorem rone_any (s : ByteArray) (w : World) (hl : s.size ≤ 1000000) : Calls Tryz.prog 34 #[.string s] w fun e w' => e = .returned (oneRT (oneR (bl s))) ∧ RowKit.Below w.heap.size w w' := by
  obtain ⟨n, hn⟩ : ∃ n, n = wordN (bl s) := ⟨_, rfl⟩
  have hns : n ≤ s.size := by rw [hn, ← bl_len]; exact wordN_le _
  have hnb := fun W => rword_any s W hl
  obtain ⟨F, hF⟩ : ∃ F, F = oneR (bl s) := ⟨_, rfl⟩
  rw [← hF]
  unfold oneR at hF
  rw [← hn] at hnb hF
  have hba := fun W => rbare_any (s.extract n s.size) W (by rw [tail_size]; omega)
  rw [bl_tail] at hba
  obtain ⟨t, ht⟩ : ∃ t, t = mkB (bareP ((bl s).drop n)) := ⟨_, rfl⟩
  have htb : bareP ((bl s).drop n) = bl t := by rw [ht, bl_mk]
  have hts : t.size ≤ s.size := by rw [ht, mkB_size]; refine Nat.le_trans (bareP_le _) ?_; rw [List.length_drop, bl_len]; omega
  simp only [← ht] at hba
  rw [htb] at hF
  clear htb ht
  have hhead := extract_head s n
  have hempty : n = 0 → s.extract 0 n = ⟨#[]⟩ := fun h => by subst h; rw [extract_head]; rfl
  have hfull : n ≠ 0 → (s.extract 0 n).size ≠ 0 := fun h => by rw [hhead, mkB_size, List.length_take, bl_len]; omega
  rw [← hhead] at hF
  generalize s.extract 0 n = na at hnb hF hempty hfull
  generalize s.extract n s.size = ra at hnb hba
  have hsg := fun W => rsigned_any t W (by omega)
  generalize hS : signF (bl t) = S at hsg hF
  have HWD := Lib.hid hnb; have HBA := Lib.hid hba; have HSG := Lib.hid hsg
  clear hnb hba hhead hn hsg
  have hbx := RowKit.Below.refl (w.alloc (.cells #[.int .i64 0, .string ⟨#[]⟩, .string ⟨#[]⟩] 37)).heap.size (w.alloc (.cells #[.int .i64 0, .string ⟨#[]⟩, .string ⟨#[]⟩] 37))
  have HBX := Lib.hid hbx; clear hbx
  by_cases hz : n = 0
  · have hr : F = none := by rw [hF, if_pos hz]
    subst hr
    obtain rfl := hempty hz
    clear hF hempty hfull hz
    unfold oneRT
    simp only
    cases S
    all_goals
      clear hS
      have HSG := Lib.hid HSG.out
      unfold sgT at HSG
      go_enter Tryz.func34, Tryz.ntmps34
      go_wp2_with fail
      refine (HWD.out _).mono ?_
      rintro e w1 ⟨rfl, m1, rfl⟩
      have HB1 := Lib.hid (below_drewN HBX.out m1)
      go_wp2_with fail
      refine (HBA.out _).mono ?_
      rintro e w2 ⟨rfl, rfl⟩
      go_wp2_with fail
      refine (HSG.out _).mono ?_
      rintro e w3 ⟨rfl, hb3⟩
      have HB3 := Lib.hid (HB1.out.trans (hb3.mono HB1.out.size)); clear hb3
      obtain ⟨d0, d1, d2, f0, f1, f2⟩ := mbox_facts HB3.out
      go_wp2
      obtain ⟨r1, r2⟩ := mbox_set (x' := .int .i64 0) (y' := .string ⟨#[]⟩) (z' := .string ⟨#[]⟩) HB3.out
      exact post_mt3 rfl _ _ rfl r1 rfl rfl ⟨rfl, r2⟩
  · obtain ⟨e1, e2⟩ := ne_empty (hfull hz)
    clear hempty hfull
    rw [if_neg hz] at hF
    cases S with
    | none =>
      have hr : F = none := hF
      subst hr
      clear hF hS
      unfold oneRT
      have HSG := Lib.hid HSG.out
      unfold sgT at HSG
      go_enter Tryz.func34, Tryz.ntmps34
      go_wp2_with fail
      refine (HWD.out _).mono ?_
      rintro e w1 ⟨rfl, m1, rfl⟩
      have HB1 := Lib.hid (below_drewN HBX.out m1)
      go_wp2_with fail
      refine (HBA.out _).mono ?_
      rintro e w2 ⟨rfl, rfl⟩
      go_wp2_with fail
      refine (HSG.out _).mono ?_
      rintro e w3 ⟨rfl, hb3⟩
      have HB3 := Lib.hid (HB1.out.trans (hb3.mono HB1.out.size)); clear hb3
      obtain ⟨d0, d1, d2, f0, f1, f2⟩ := mbox_facts HB3.out
      go_wp2
      obtain ⟨r1, r2⟩ := mbox_set (x' := .int .i64 0) (y' := .string ⟨#[]⟩) (z' := .string ⟨#[]⟩) HB3.out
      exact post_mt3 rfl _ _ rfl r1 rfl rfl ⟨rfl, r2⟩
    | some q =>
      obtain ⟨k, s2⟩ := q
      obtain ⟨hk0, hs2⟩ := signF_pos hS
      rw [bl_len] at hs2
      simp only at hF
      have hk : ((k : Int) == 0) = false := by simp; omega
      have hk' : ¬ (k : Int) = 0 := by omega
      have HSG := Lib.hid HSG.out
      unfold sgT at HSG
      simp only at HSG
      have hms : (mkB s2).size = s2.length := mkB_size s2
      have hb2 := fun W => rbare_any (mkB s2) W (by rw [hms]; omega)
      rw [bl_mk] at hb2
      have hle2 := bareP_le s2
      obtain ⟨r, hr⟩ : ∃ r, r = mkB (bareP s2) := ⟨_, rfl⟩
      have hrb : bareP s2 = bl r := by rw [hr, bl_mk]
      simp only [← hr] at hb2
      rw [hrb] at hF hle2
      rw [bl_len] at hle2
      clear hr hrb hS
      generalize mkB s2 = s3 at hb2 HSG
      have hu := fun W => runq_any r W (by omega)
      have hle := unqP_le (s := bl r)
      generalize hU : unqP (bl r) = U at hu hF hle
      obtain ⟨v, m, e⟩ := U
      simp only at hu hF hle
      have HB2' := Lib.hid hb2; clear hb2
      have HU := Lib.hid hu; clear hu hU
      rw [bl_len] at hle
      by_cases he : e = 0
      · subst he
        simp only [ne_eq, not_true_eq_false, if_false] at hF
        subst hF
        have hm2 := hle rfl
        have m0 : (0 : Int) ≤ (m : Int) := by omega
        have m1 : (m : Int) ≤ (r.size : Int) := by omega
        have hb3 := fun W => rbare_any (r.extract m r.size) W (by rw [tail_size]; omega)
        rw [bl_tail] at hb3
        unfold oneRT
        simp only
        generalize mkB (bareP ((bl r).drop m)) = rest at hb3 ⊢
        generalize mkB v = vb at HU ⊢
        have HB3' := Lib.hid hb3; clear hb3 hle
        go_enter Tryz.func34, Tryz.ntmps34
        go_wp2_with fail
        refine (HWD.out _).mono ?_
        rintro e w1 ⟨rfl, m2, rfl⟩
        have HB1 := Lib.hid (below_drewN HBX.out m2)
        go_wp2_with fail
        refine (HBA.out _).mono ?_
        rintro e w2 ⟨rfl, rfl⟩
        go_wp2_with fail
        refine (HSG.out _).mono ?_
        rintro e w3 ⟨rfl, hb3⟩
        have HB3 := Lib.hid (HB1.out.trans (hb3.mono HB1.out.size)); clear hb3
        go_wp2_with fail
        refine (HB2'.out _).mono ?_
        rintro e w4 ⟨rfl, rfl⟩
        go_wp2_with fail
        refine (HU.out _).mono ?_
        rintro e w5 ⟨rfl, hb5⟩
        have HB5 := Lib.hid (HB3.out.trans (hb5.mono HB3.out.size)); clear hb5
        obtain ⟨d0, d1, d2, f0, f1, f2⟩ := mbox_facts HB5.out
        go_wp2_with fail
        refine (HB3'.out _).mono ?_
        rintro e w6 ⟨rfl, rfl⟩
        go_wp2
        obtain ⟨r1, r2⟩ := mbox_set (x' := .int .i64 (k : Nat)) (y' := .string na) (z' := .string vb) HB5.out
        exact post_mt3 rfl _ _ rfl r1 rfl rfl ⟨rfl, r2⟩
      · have hF : F = none := by rw [hF]; simp [he]
        subst hF
        unfold oneRT
        simp only
        generalize mkB v = vb at HU
        have g1 : ((e : Int) != 0) = true := by rw [bne_iff_ne]; omega
        clear hle
        go_enter Tryz.func34, Tryz.ntmps34
        go_wp2_with fail
        refine (HWD.out _).mono ?_
        rintro e w1 ⟨rfl, m2, rfl⟩
        have HB1 := Lib.hid (below_drewN HBX.out m2)
        go_wp2_with fail
        refine (HBA.out _).mono ?_
        rintro e w2 ⟨rfl, rfl⟩
        go_wp2_with fail
        refine (HSG.out _).mono ?_
        rintro e w3 ⟨rfl, hb3⟩
        have HB3 := Lib.hid (HB1.out.trans (hb3.mono HB1.out.size)); clear hb3
        go_wp2_with fail
        refine (HB2'.out _).mono ?_
        rintro e w4 ⟨rfl, rfl⟩
        go_wp2_with fail
        refine (HU.out _).mono ?_
        rintro e w5 ⟨rfl, hb5⟩
        have HB5 := Lib.hid (HB3.out.trans (hb5.mono HB3.out.size)); clear hb5
        obtain ⟨d0, d1, d2, f0, f1, f2⟩ := mbox_facts HB5.out
        go_wp2
        obtain ⟨r1, r2⟩ := mbox_set (x' := .int .i64 0) (y' := .string ⟨#[]⟩) (z' := .string ⟨#[]⟩) HB5.out
        exact post_mt3 rfl _ _ rfl r1 rfl rfl ⟨rfl, r2⟩
end
end Go.Proofs.YtinjdlplbficiaaGreatDoor
