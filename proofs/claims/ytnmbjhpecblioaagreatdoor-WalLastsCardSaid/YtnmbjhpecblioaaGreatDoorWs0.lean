/-
  Numbers sorted by their difference: rising ones stay.
  The numbers of a disk's segments.
-/
import Derived.Lib.SliceRun
import Derived.Test.YtnmbjhpecblioaaGreatDoorWp
import Derived.Test.YtnmbjhpecblioaaGreatDoorGen
import Derived.Test.YtnmbjhpecblioaaGreatDoorShelf2
import Derived.Test.YtnmbjhpecblioaaGreatDoorWt
import Derived.Test.YtnmbjhpecblioaaGreatDoorDl
namespace Go.Proofs.YtnmbjhpecblioaaGreatDoor
set_option linter.unusedVariables false
set_option linter.unusedSimpArgs false
section
set_option linter.unusedVariables false
set_option linter.unusedSimpArgs false
open Go.RowKit
def Ni (n : Nat) : Value := .int .i64 (n : Nat)
def Un (x : UInt32) : Value := .int .i64 (x.toNat : Int)
def cfN (x y : UInt32) : Int := (x.toNat : Int) - (y.toNat : Int)
theorem ltN (x y : UInt32) : ltOf cfN x y = decide (x.toNat < y.toNat) := by
  unfold ltOf cfN
  by_cases h : x.toNat < y.toNat
  · simp [h]; omega
  · simp [h]; omega
theorem swoN : Go.Sort.SWO (ltOf cfN) where
  irrefl x := by rw [ltN]; simp
  trans x y z h1 h2 := by rw [ltN] at *; simp at *; omega
  ntrans x y z h1 h2 := by rw [ltN] at *; simp at *; omega
section
set_option maxHeartbeats 1600000
set_option maxRecDepth 100000
theorem less_any (x y : UInt32) (W : World) : Calls Tryz.prog 93 #[.int .i64 (x.toNat : Int), .int .i64 (y.toNat : Int)] W fun e w' => e = .returned (.int .i64 (cfN x y)) ∧ ∃ q, w' = W.drewN q := by
  have hx : x.toNat < 4294967296 := x.toNat_lt
  have hy : y.toNat < 4294967296 := y.toNat_lt
  unfold cfN
  generalize x.toNat = a at *
  generalize y.toNat = b at *
  have q1 : IntKind.i64.wrap ((a : Int) - (b : Int)) = (a : Int) - (b : Int) := IntWalk.i64_in _ (by omega)
  go_enter Tryz.func93, Tryz.ntmps93
  go_wp2
  go_ret
  exact ⟨rfl, 0, rfl⟩
theorem cmpN (blk off size : Nat) (w : World) : CmpReads Tryz.prog 93 #[] Un cfN blk off size w := fun _ _ _ _ x y => less_any x y _
theorem holds_own {w : World} {B g n cap : Nat} {d : Array UInt32} (h : w.ownsRow B 3 1 (.slice (some ⟨g, 0, none⟩) n cap) n (d.toList.map Un)) (hn : d.size = n) : Go.Sort.Holds Un w g 0 d ∧ g < w.heap.size ∧ B ≤ g := by
  rcases h.2 with ⟨h1, _⟩ | ⟨g', cap', cur, e, hB, hg, hnc, hcm, hcs, htk⟩
  · cases h1
  · injection e with e1 e2 e3
    injection e1 with e1
    injection e1 with e1
    subst e1
    refine ⟨fun j hj => ?_, blk_lt hg, hB⟩
    have hr : cur[j]? = some (Un d[j]!) := by
      have h1 : (cur.toList.take (n * 1))[j]? = (d.toList.map Un)[j]? := by rw [htk]
      rw [List.getElem?_take, if_pos (by omega), List.getElem?_map] at h1
      rw [← Array.getElem?_toList, h1]
      simp [hj]
    refine ⟨?_, ?_⟩
    · rw [Nat.zero_add, cell_blk hg j]; exact hr
    · rw [Nat.zero_add]; exact free_blk hg j
theorem sort_world {w : World} {g n : Nat} {d d' : Array UInt32} {os : Array Obj} (hH : Go.Sort.Holds Un w g 0 d) (hs : d'.size = d.size) (hg : g < w.heap.size) {B : Nat} (hB : B ≤ g) (hBw : B ≤ w.heap.size) :
    Rd (sortWorld Un w g 0 n d' os) (some ⟨g, 0, none⟩) (d'.toList.map Un) ∧ RowKit.Below B w (sortWorld Un w g 0 n d' os) := by
  have h1 : Go.Sort.Holds Un (sortWorld Un w g 0 n d' os) g 0 d' :=
    Go.Sort.holds_grow Un _ os g 0 d' (by rw [Go.Sort.size_putRow]; exact hg) (Go.Sort.holds_putRow Un _ g 0 d d' (Go.Sort.holds_ahead Un w n g 0 d hH) hs)
  constructor
  · intro k v hv
    refine ⟨g, 0, rfl, ?_⟩
    have hk : k < d'.size := by have := (List.getElem?_eq_some_iff.1 hv).1; simpa using this
    rw [(h1 k hk).1, ← hv]
    simp [hk]
  · refine ⟨rfl, rfl, rfl, ?_, ?_⟩
    · show w.heap.size ≤ (Go.Sort.grow (Go.Sort.putRow Un (Go.Sort.ahead w n) g 0 d') os).heap.size
      rw [Go.Sort.size_grow, Go.Sort.size_putRow]
      exact Nat.le_add_right _ _
    · intro k hk
      show (Go.Sort.grow (Go.Sort.putRow Un (Go.Sort.ahead w n) g 0 d') os).heap[k]? = w.heap[k]?
      rw [Go.Sort.heap_grow_old _ os (by rw [Go.Sort.size_putRow]; show k < w.heap.size; omega)]
      show (Go.Sort.mapBlock (Go.Sort.ahead w n) g _).heap[k]? = _
      unfold Go.Sort.mapBlock
      show (w.heap.modify g _)[k]? = w.heap[k]?
      rw [Array.getElem?_modify, if_neg (by omega)]
theorem sort_no (p : Option Addr) (c : Nat) (W : World) : Calls Tryz.prog 92 #[.slice p 0 c, .func (.func 93) #[] #[]] W fun e w' => e = .returned (.tuple #[]) ∧ w' = W := by
  have h := AnyF.slices_SortFunc_none (P := Tryz.prog) (ρ := Tryz.sortF_ren) { Tryz.sortF with } p c (.func (.func 93) #[] #[]) W
  exact h
theorem perm_same {ys xs : List Nat} (hp : ys.Perm xs) (h1 : ys.Pairwise (· ≤ ·)) (h2 : xs.Pairwise (· < ·)) : ys = xs :=
  hp.eq_of_pairwise (le := (· ≤ ·)) (fun a b _ _ h k => Nat.le_antisymm h k) h1 (h2.imp Nat.le_of_lt)
/-- Rising numbers stay. -/
theorem sort_stays {B : Nat} {w : World} (A : Option Addr) (c : Nat) (xs : List Nat) (hb : ∀ x ∈ xs, x < 4294967296) (hr : xs.Pairwise (· < ·)) (hx : w.ownsRow B 3 1 (.slice A xs.length c) xs.length (xs.map Ni)) (hl : xs.length ≤ 1000) (hB : B ≤ w.heap.size) :
    Calls Tryz.prog 92 #[.slice A xs.length c, .func (.func 93) #[] #[]] w fun e w' => e = .returned (.tuple #[]) ∧ Rd w' A (xs.map Ni) ∧ Below B w w' := by
  cases A with
  | none =>
    have h0 : xs = [] := by
      rcases hx.2 with ⟨-, h0⟩ | ⟨g, cap, cur, e, _⟩
      · exact List.eq_nil_of_length_eq_zero h0
      · cases e
    subst h0
    refine (sort_no none c w).mono ?_
    rintro e w' ⟨rfl, rfl⟩
    exact ⟨rfl, Rd.nil _ _, Below.refl _ _⟩
  | some a =>
    have hd : (xs.map fun x => UInt32.ofNat x).map Un = xs.map Ni := by
      rw [List.map_map]
      refine List.map_congr_left fun x hx => ?_
      have := hb x hx
      simp only [Function.comp, Un, Ni]
      rw [UInt32.toNat_ofNat', Nat.mod_eq_of_lt (by omega)]
    obtain ⟨g, rfl⟩ : ∃ g, a = ⟨g, 0, none⟩ := by
      rcases hx.2 with ⟨e, _⟩ | ⟨g, cap, cur, e, _⟩
      · cases e
      · injection e with e; injection e with e; exact ⟨g, e⟩
    obtain ⟨d, hd2⟩ : ∃ d : Array UInt32, d = (xs.map fun x => UInt32.ofNat x).toArray := ⟨_, rfl⟩
    have hds : d.size = xs.length := by rw [hd2]; simp
    have hdl : d.toList = xs.map fun x => UInt32.ofNat x := by rw [hd2]
    rw [← hd, ← hdl] at hx
    obtain ⟨hH, hg, hBg⟩ := holds_own hx hds
    have eg : ∀ args w, (callFunc 93 args).run Tryz.prog w = .ok (.enter 93 args) w := enters_of Tryz.func93 (by kernel_rfl) rfl
    have hS := Any.slices_SortFunc Tryz.sortF Un (fun _ => rfl) cfN swoN 93 #[] g 0 c d w eg (cmpN g 0 d.size w).lays hH hg (by omega)
    rw [hds] at hS
    refine hS.mono ?_
    rintro e w' ⟨rfl, d', n, os, hp, hs, rfl⟩
    obtain ⟨hsz, _, hperm⟩ := hp
    obtain ⟨hr2, hb2⟩ := sort_world (n := n) (os := os) hH hsz hg hBg hB
    have e1 : d'.extract 0 xs.length = d' := by rw [← hds, ← hsz]; simp
    have e2 : d.extract 0 xs.length = d := by rw [← hds]; simp
    rw [e1, e2] at hperm
    have hys : (d'.toList.map UInt32.toNat) = xs := by
      refine perm_same ?_ ?_ hr
      · have h1 : d'.toList.Perm d.toList := hperm
        have h2 := h1.map UInt32.toNat
        rw [hdl, List.map_map] at h2
        refine h2.trans (List.Perm.of_eq ((List.map_congr_left fun x hx => ?_).trans (List.map_id _)))
        have := hb x hx
        simp only [Function.comp, id]
        rw [UInt32.toNat_ofNat', Nat.mod_eq_of_lt (by omega)]
      · rw [List.pairwise_iff_getElem]
        intro i j hi hj hij
        have hj' : j < d'.size := by simpa using hj
        have hi' : i < d'.size := by omega
        have := hs i j (Nat.zero_le _) hij (by omega)
        rw [ltN, decide_eq_false_iff_not, getElem!_pos d' j hj', getElem!_pos d' i hi'] at this
        simp
        omega
    have hun : d'.toList.map Un = xs.map Ni := by
      rw [← hys, List.map_map]; rfl
    rw [hun] at hr2
    exact ⟨rfl, hr2, hb2⟩
end
end
section
set_option linter.unusedVariables false
set_option linter.unusedSimpArgs false
open Go.Maps Go.RowKit
theorem rd_at {w : World} {A : Option Addr} {vs : List Value} {k : Nat} {v : Value} (h : Rd w A vs) (hk : vs[k]? = some v) : ∃ b off, A = some ⟨b, off, none⟩ ∧ ∀ W', Below w.heap.size w W' → W'.cell? ⟨b, off + k, none⟩ = some v := by
  obtain ⟨b, off, e, hc⟩ := h k v hk
  exact ⟨b, off, e, fun W' hb => (hb.cell (p := ⟨b, off + k, none⟩) (World.block_lt_of_cell? w _ hc)).trans hc⟩
theorem infoInt : (Tryz.prog.info? 3).map (fun i => (i.zero, i.size, i.bytes)) = some (some (.int .i64 0), 1, 8) := by kernel_rfl
theorem atoiV_in (l : Bs) : -9223372036854775808 ≤ atoiV l ∧ atoiV l ≤ 9223372036854775807 := by
  unfold atoiV
  cases h : Lib.atoiAll l with
  | ok v =>
    simp only
    unfold Lib.atoiAll at h
    cases l with
    | nil => cases h
    | cons c r =>
      simp only at h
      split at h
      · cases h
      · cases h
      · split at h
        · cases h
        · split at h
          · cases h
          · injection h with h
            subst h
            split <;> omega
  | «syntax» => simp only; omega
  | range => simp only; unfold Lib.atoiSat; split <;> omega
theorem segs_take {L : List Fl} {k : Nat} {f : Fl} (h : L[k]? = some f) : segsW (L.take (k + 1)) = segsW (L.take k) ++ (match numOf f.1 with | none => [] | some n => [n]) := by
  obtain ⟨h1, h2⟩ := List.getElem?_eq_some_iff.1 h
  unfold segsW
  rw [List.take_succ_eq_append_getElem h1, h2, List.filterMap_append]
  congr 1
  cases hn : numOf f.1 <;> simp [hn]
theorem num_is {s : ByteArray} (hs : s.size ≠ 0) (h : titleN (atoiV (Lib.trimPrefix (bl s) wpre)) = s) : ∃ n : Nat, numOf s = some n ∧ atoiV (Lib.trimPrefix (bl s) wpre) = (n : Nat) := by
  have h1 : 1 ≤ atoiV (Lib.trimPrefix (bl s) wpre) := by
    by_cases hlt : atoiV (Lib.trimPrefix (bl s) wpre) < 1
    · unfold titleN at h
      rw [if_pos (.inl hlt)] at h
      rw [← h] at hs
      exact absurd rfl hs
    · omega
  obtain ⟨m, hm⟩ := Int.eq_ofNat_of_zero_le (show 0 ≤ atoiV (Lib.trimPrefix (bl s) wpre) by omega)
  refine ⟨m, ?_, hm⟩
  unfold numOf
  rw [if_pos ⟨h1, h⟩, hm]; simp
theorem num_not {s : ByteArray} (h : ¬ titleN (atoiV (Lib.trimPrefix (bl s) wpre)) = s) : numOf s = none := by
  unfold numOf; rw [if_neg fun e => h e.2]
section
set_option maxHeartbeats 1600000
set_option maxRecDepth 100000
variable {w : World} {db mb room : Nat} {es : List Ent}
theorem segments_any (h : DiskE w db mb room es) (hT : TabW w) (hn : ∀ f ∈ es.map val, f.1.size ≠ 0) : Calls Tryz.prog 62 #[.pointer (some ⟨db, 0, none⟩)] w fun e w' => ∃ A c, e = .returned (.slice A (segsW (es.map val)).length c) ∧ (segsW (es.map val)).length ≤ c ∧ c ≤ maxLen ∧
    Rd w' A ((segsW (es.map val)).map Ni) ∧ Below w.heap.size w w' ∧ ∀ g, A.map (·.block) = some g → w.heap.size ≤ g ∧ g < w'.heap.size := by
  obtain ⟨i0, hi, hz0, hz1, hz2⟩ := info_parts infoInt
  have hel := h.fits.2.2
  have hrise := segs_rise (by rw [List.pairwise_map]; exact h.srt) hn
  have HLI := Lib.hid (dlist_any h)
  have HN := Lib.hid hn; have HT := Lib.hid hT; have HE := Lib.hid h.each; have HRI := Lib.hid hrise
  obtain ⟨L, hL⟩ : ∃ L, L = es.map val := ⟨_, rfl⟩
  have hLl : L.length = es.length := by rw [hL, List.length_map]
  have HL := Lib.hid hL; have HLL := Lib.hid hLl
  rw [← hL] at HN HRI ⊢
  clear h hT hn hrise hL
  go_enter Tryz.func62, Tryz.ntmps62
  go_wp2_with fail
  with_reducible refine HLI.out.mono ?_
  rintro e w1 ⟨vl, rfl, hol, hbl⟩
  obtain ⟨Al, cl, rfl, hrl, -, hcl1, hcl2⟩ := own_rd hol
  have HRL := Lib.hid hrl; have HB1 := Lib.hid hbl
  clear hol hrl hbl HLI
  go_wp2
  go_loopw [3, 11] (fun s3 s11 wr => ∃ k : Nat, s11 = .int .i64 k ∧ k ≤ es.length ∧ (∃ A' n' c', s3 = .slice A' n' c') ∧ Aside (wr.ownsRow w1.heap.size 3 1 s3 (segsW (L.take k)).length ((segsW (L.take k)).map Ni)) ∧ Aside (Below w1.heap.size w1 wr)) (fun _ s11 _ => es.length - (intOf s11).toNat)
  case atStart => exact ⟨0, rfl, by omega, ⟨_, _, _, rfl⟩, ⟨rfl, .inl ⟨rfl, rfl⟩⟩, Below.refl _ _⟩
  case round =>
    obtain ⟨k, rfl, hk, ⟨A', n', c', rfl⟩, OW, BW⟩ := hrel
    have k0 : (0 : Int) ≤ (k : Int) := by omega
    by_cases hlt : k < es.length
    · have k1 : (k : Int) < (es.length : Int) := by omega
      have k2 : (k : Int) ≤ (cl : Int) := by omega
      obtain ⟨x, hx⟩ : ∃ x, es[k]? = some x := ⟨_, List.getElem?_eq_getElem hlt⟩
      have hLk : L[k]? = some (val x) := by rw [HL.out, List.getElem?_map, hx]; rfl
      obtain ⟨lb, lo, rfl, hlc⟩ := rd_at HRL.out (k := k) (v := .string x.nm) (by rw [List.getElem?_map, hx]; rfl)
      have l0 := hlc wr BW.out
      have hx0 : x.nm.size ≠ 0 := HN.out _ (List.mem_of_getElem? hLk)
      have hxe := (HE.out x (List.mem_of_getElem? hx)).2
      have hst := segs_take hLk
      rw [show (val x).1 = x.nm from rfl] at hst
      have hBw := HB1.out.trans (BW.out.mono HB1.out.size)
      have htl : (bl (mkB (Lib.trimPrefix (bl x.nm) wpre))) = Lib.trimPrefix (bl x.nm) wpre := bl_mk _
      have htz : (mkB (Lib.trimPrefix (bl x.nm) wpre)).size ≤ 32 := by
        rw [← bl_len, bl_mk]
        unfold Lib.trimPrefix
        split
        · rw [List.length_drop, bl_len]; omega
        · rw [bl_len]; omega
      have hat := atoi_any (mkB (Lib.trimPrefix (bl x.nm) wpre)) wr (HT.out.below hBw) (by omega)
      rw [htl] at hat
      obtain ⟨ai, aj⟩ := atoiV_in (Lib.trimPrefix (bl x.nm) wpre)
      have hni := num_is hx0
      have hnn := num_not (s := x.nm)
      have hsl : (segsW (L.take k)).length ≤ k := Nat.le_trans (List.length_filterMap_le _ _) (by rw [List.length_take]; omega)
      generalize atoiV (Lib.trimPrefix (bl x.nm) wpre) = v at hat ai aj hni hnn
      have HAT := Lib.hid hat; have HST := Lib.hid hst; have HNI := Lib.hid hni; have HNN := Lib.hid hnn; have HBW := Lib.hid hBw
      have HTR := Lib.hid (trim_any x.nm wr)
      have HO := Lib.hid OW.out; have HB := Lib.hid BW.out
      clear hx hLk hlc hst hBw htl htz hat hni hnn hx0 OW BW
      go_wp2_with fail
      with_reducible refine HTR.out.mono ?_
      rintro e w2 ⟨rfl, rfl⟩
      go_wp2_with fail
      with_reducible refine HAT.out.mono ?_
      rintro e w3 ⟨⟨ve, rfl⟩, hb3⟩
      have HTI := Lib.hid (title_any v ai aj w3 ((HT.out.below HBW.out).below hb3))
      have HB3 := Lib.hid (HB.out.trans (hb3.mono HB.out.size)); have HO3 := Lib.hid (own_moved HO.out fun g hg => hb3.block g (HO.out.lt g hg).2)
      clear hb3
      go_wp2_with fail
      with_reducible refine HTI.out.mono ?_
      rintro e w4 ⟨rfl, hb4⟩
      have HB4 := Lib.hid (HB3.out.trans (hb4.mono HB3.out.size)); have HO4 := Lib.hid (own_moved HO3.out fun g hg => hb4.block g (HO3.out.lt g hg).2)
      have HZ4 := Lib.hid (Nat.le_trans HB1.out.size HB4.out.size)
      clear hb4
      by_cases he : titleN v = x.nm
      · obtain ⟨n, hn1, hn2⟩ := HNI.out he
        have t1 : ((titleN v).toList == x.nm.toList) = true := by rw [he]; exact beq_self_eq_true _
        have HN1 := Lib.hid hn1
        subst hn2
        clear he hn1
        go_wp2_with (first
          | (at_builtin; (refine wpList_append_rd rfl _ _ 48 rfl w1.heap.size 3 i0 (.int .i64 0) 8 Tryz.underlying48 hi hz0 hz1 hz2 rfl _ (segsW (L.take k)).length ((segsW (L.take k)).map Ni) rfl (own_moved HO4.out fun g hg => ((Below.refl _ w4).alloc (Nat.le_refl _) _).block g (HO4.out.lt g hg).2) (some ⟨w4.heap.size, 0, none⟩) 1 [Ni n] rfl (rd_row' w4 [Ni n] 3) (fun u hu => by rw [List.mem_singleton] at hu; subst hu; rfl) (by unfold maxLen; simp only [List.length_cons, List.length_nil]; omega) (by simp only [List.length_cons, List.length_nil]; omega) (by have := HB4.out.size; rw [World.size_alloc]; omega) ?_; intro v5 w5 ho5 hg5; have HO5 := Lib.hid ho5; have HB5 := Lib.hid (Below.grown (HB4.out.alloc HB4.out.size _) hg5 (by have := HB4.out.size; rw [World.size_alloc]; omega) (fun k hk => (HO4.out.lt k hk).1)); clear ho5 hg5))
          | fail)
        have h9 : w5.ownsRow w1.heap.size 3 1 v5 (segsW (L.take (k + 1))).length ((segsW (L.take (k + 1))).map Ni) := by rw [HST.out, HN1.out]; simpa using HO5.out
        go_roundw
        case rel => exact ⟨k + 1, by go_num, by omega, (by obtain ⟨A9, c9, e9, _⟩ := own_rd HO5.out; exact ⟨_, _, _, e9⟩), h9, HB5.out⟩
        case measure => simp [intOf]; omega
      · have t1 : ((titleN v).toList == x.nm.toList) = false := by rw [beq_eq_false_iff_ne, toList_bl, toList_bl]; exact fun e => he (bl_inj e)
        have HN1 := Lib.hid (HNN.out he)
        clear he
        go_wp2_with fail
        have h9 : w4.ownsRow w1.heap.size 3 1 (.slice A' n' c') (segsW (L.take (k + 1))).length ((segsW (L.take (k + 1))).map Ni) := by rw [HST.out, HN1.out]; simpa using HO4.out
        go_roundw
        case rel => exact ⟨k + 1, by go_num, by omega, ⟨_, _, _, rfl⟩, h9, HB4.out⟩
        case measure => simp [intOf]; omega
    · obtain rfl : k = es.length := by omega
      have hO := OW.out
      rw [show es.length = L.length from HLL.out.symm, List.take_length] at hO
      obtain ⟨A9, c9, e9, hr9, -, hc9, hm9⟩ := own_rd hO
      injection e9 with e9 e10 e11
      subst e9; subst e10; subst e11
      have hsl : (segsW L).length ≤ 64 := Nat.le_trans (List.length_filterMap_le _ _) (by have := HLL.out; omega)
      have HSO := Lib.hid (sort_stays A' c' (segsW L) (fun x hx => by obtain ⟨⟨-, hb⟩, -⟩ := (mem_segs HN.out).1 hx; omega) HRI.out hO (by omega) BW.out.size)
      have HC9 := Lib.hid hc9; have HM9 := Lib.hid hm9
      have HNW := Lib.hid (fun g (hg : A'.map (·.block) = some g) => show w.heap.size ≤ g ∧ g < wr.heap.size from by
        cases A' with
        | none => cases hg
        | some a => (injection hg with hg; change a.block = g at hg; subst hg; exact ⟨Nat.le_trans HB1.out.size (hO.lt a.block rfl).1, (hO.lt a.block rfl).2⟩))
      have HBW := Lib.hid (HB1.out.trans (BW.out.mono HB1.out.size))
      have HB := Lib.hid BW.out
      clear hO hr9 hc9 hm9 OW BW
      go_wp2_with fail
      with_reducible refine HSO.out.mono ?_
      rintro e w9 ⟨rfl, hr, hb⟩
      have HS9 := Lib.hid hb.size; have HR9 := Lib.hid hr; have HB9 := Lib.hid (HBW.out.trans (hb.mono HB1.out.size))
      clear hr hb
      go_wp2
      go_ret
      exact ⟨A', c', rfl, HC9.out, HM9.out, HR9.out, HB9.out, fun g hg => ⟨(HNW.out g hg).1, Nat.lt_of_lt_of_le (HNW.out g hg).2 HS9.out⟩⟩
end
end
end Go.Proofs.YtnmbjhpecblioaaGreatDoor
