/-
  The plain answers' runes of a text, whether it has just runes, which runes are signs, and texts as they are in a pattern.
-/
import Derived.Test.YtinjdlplbficiaaGreatDoorQz
import Derived.Test.YtinjdlplbficiaaGreatDoorRd6
import Derived.Test.YtinjdlplbficiaaGreatDoorSr
namespace Go.Proofs.YtinjdlplbficiaaGreatDoor
set_option linter.unusedVariables false
set_option linter.unusedSimpArgs false
open Go.RowKit
/-- A rune as the plain answers tell it: -1 of a byte that belongs to none. -/
def plainC (c : Int) : Int := if c = -2 then -1 else c
/-- A text's runes and where they stand, without the end. -/
def chF : Nat → Nat → Bs → List Pc
  | 0, _, _ => []
  | n + 1, a, l => if l = [] then [] else (a, if badL l then -1 else ((dL l).1 : Int)) :: chF n (a + (dL l).2) (l.drop (dL l).2)
def chAt (a : Nat) (l : Bs) : List Pc := (placesAt a l).dropLast.map fun p => (p.1, plainC p.2)
theorem placesAt_ne (l : Bs) (a : Nat) : placesAt a l ≠ [] := (places_ok l a).ne
theorem chAt_nil (a : Nat) : chAt a [] = [] := rfl
theorem plainC_dec (l : Bs) (h : l ≠ []) : plainC (if badL l then -2 else ((dL l).1 : Int)) = if badL l then -1 else ((dL l).1 : Int) := by
  unfold plainC
  cases badL l with
  | true => rfl
  | false => simp only [Bool.false_eq_true, if_false]; rw [if_neg (by omega)]
theorem chAt_step (a : Nat) {l : Bs} (h : l ≠ []) : chAt a l = (a, if badL l then -1 else ((dL l).1 : Int)) :: chAt (a + (dL l).2) (l.drop (dL l).2) := by
  unfold chAt
  rw [placesAt_step a h, List.dropLast_cons_of_ne_nil (placesAt_ne _ _), List.map_cons, plainC_dec l h]
theorem chAt_len (l : Bs) (a : Nat) : (chAt a l).length + 1 = (placesAt a l).length := by
  unfold chAt
  rw [List.length_map, List.length_dropLast]
  have := List.length_pos_iff.2 (placesAt_ne l a)
  omega
/-- A rune's cells: the rune, then its place. -/
def chC (l : List Pc) : List Value := l.flatMap fun p => [.int .i32 p.2, .int .i64 (p.1 : Nat)]
theorem chC_app (a b : List Pc) : chC (a ++ b) = chC a ++ chC b := by simp [chC]
theorem chC_cons (p : Pc) (l : List Pc) : chC (p :: l) = .int .i32 p.2 :: .int .i64 (p.1 : Nat) :: chC l := rfl
theorem chC_len (l : List Pc) : (chC l).length = l.length * 2 := by
  induction l with
  | nil => rfl
  | cons p t ih => rw [chC_cons, List.length_cons, List.length_cons, ih, List.length_cons]; omega
theorem chC_one (l : List Pc) : ∀ u ∈ chC l, u.oneCell' = true := by
  intro u hu
  unfold chC at hu
  rw [List.mem_flatMap] at hu
  obtain ⟨s, _, hs⟩ := hu
  simp only [List.mem_cons, List.not_mem_nil, or_false] at hs
  rcases hs with rfl | rfl <;> rfl
theorem chC_at : ∀ (l : List Pc) (k : Nat) (h : k < l.length), (chC l)[k * 2]? = some (.int .i32 l[k].2) ∧ (chC l)[k * 2 + 1]? = some (.int .i64 (l[k].1 : Nat))
  | p :: l, 0, h => ⟨rfl, rfl⟩
  | p :: l, k + 1, h => by
    have := chC_at l k (by simpa using h)
    rw [chC_cons, show (k + 1) * 2 = k * 2 + 1 + 1 by omega]
    simpa using this
theorem infoChar : (Tryz.prog.info? 168).map (fun i => (i.zero, i.size, i.bytes)) = some (some (.agg #[.int .i32 0, .int .i64 0]), 2, 16) := by kernel_rfl
/-- Runes read as far as byte pos. -/
structure ChRel (w wr : World) (s : ByteArray) (v : Value) (pos : Nat) (done : List Pc) : Prop where
  own : wr.ownsRow (w.heap.size + 1) 168 2 v done.length (chC done)
  it : wr.heap[w.heap.size]? = some (.stringIter s pos)
  below : RowKit.Below w.heap.size w wr
  all : done ++ chAt pos ((bl s).drop pos) = chAt 0 (bl s)
  few : done.length ≤ pos
  le : pos ≤ s.size
theorem ChRel.start (w : World) (s : ByteArray) : ChRel w (w.iter s 0) s (.slice none 0 0) 0 [] := by
  have h := World.iter_heap w s 0
  refine ⟨⟨rfl, .inl ⟨rfl, rfl⟩⟩, by simpa using h, (RowKit.Below.refl _ w).alloc (Nat.le_refl _) _, by simp, Nat.le_refl _, Nat.zero_le _⟩
theorem ChRel.next {w wr w2 w3 : World} {s : ByteArray} {v v' : Value} {pos wd : Nat} {done : List Pc} {q : Int} {x : Obj} (k : ChRel w wr s v pos done) (h2 : w2 = wr.iterAt w.heap.size s (pos + wd)) (hp : pos < s.size) (hd : dL ((bl s).drop pos) = (((dL ((bl s).drop pos)).1), wd)) (hw : 1 ≤ wd) (hle : pos + wd ≤ s.size)
    (hq : (if badL ((bl s).drop pos) then (-1 : Int) else ((dL ((bl s).drop pos)).1 : Int)) = q) (ho : w3.ownsRow (w.heap.size + 1) 168 2 v' (done.length + 1) (chC done ++ [.int .i32 q, .int .i64 (pos : Nat)])) (hg : (w2.alloc x).grownBy w3 v.ownBlock) : ChRel w w3 s v' (pos + wd) (done ++ [(pos, q)]) := by
  have hi2 : w2.heap[w.heap.size]? = some (.stringIter s (pos + wd)) := by rw [h2]; exact Lib.iterAt_heap wr _ s pos (pos + wd) k.it
  have hs2 : w2.heap.size = wr.heap.size := by rw [h2]; exact Lib.iterAt_size ..
  have hb2 : RowKit.Below w.heap.size w w2 := by rw [h2]; exact Lib.below_iterAt k.below (Nat.le_refl _) s (pos + wd)
  have hl := blk_lt k.it
  have hne : v.ownBlock ≠ some w.heap.size := fun e => by have := (k.own.lt _ e).1; omega
  have mg : Mv (fun i => v.ownBlock = some i) (w2.alloc x) w3 := (Mv.refl _ _).grown hg fun _ _ h => h
  refine ⟨by rw [List.length_append, chC_app]; exact ho, ?_, ?_, ?_, by rw [List.length_append]; have := k.few; simp; omega, hle⟩
  · refine (mg.block _ (by rw [World.size_alloc]; omega) hne).trans ?_
    rw [Below.heap_alloc _ _ _ (by omega)]; exact hi2
  · refine (hb2.alloc (by have := k.below.size; omega) x).trans ((mg.belowB (B := w.heap.size) (by rw [World.size_alloc]; omega) fun i hi e => by have := (k.own.lt _ e).1; omega))
  · rw [← k.all, List.append_assoc]
    congr 1
    have hne : (bl s).drop pos ≠ [] := by
      intro e
      have := congrArg List.length e
      rw [List.length_drop, bl_len] at this
      simp at this; omega
    rw [chAt_step pos hne, hq, List.drop_drop]
    have e : (dL ((bl s).drop pos)).2 = wd := by rw [hd]
    rw [e]
    rfl
def ChOut (w : World) (s : ByteArray) (e : Ending) (w' : World) : Prop := ∃ A c, e = .returned (.slice A (chAt 0 (bl s)).length c) ∧ (chAt 0 (bl s)).length ≤ c ∧ c ≤ maxLen ∧ (∀ b, A.map (·.block) = some b → w.heap.size ≤ b ∧ b < w'.heap.size) ∧ Rd w' A (chC (chAt 0 (bl s))) ∧ RowKit.Below w.heap.size w w'
theorem slice_both (u : World) (s : ByteArray) (i j : Nat) (h : i ≤ j) (h2 : j ≤ s.size) : (Instr.sliceAt 9 (.string s) (some (.int .i64 ((i : Nat) : Int))) (some (.int .i64 ((j : Nat) : Int))) none).run Tryz.prog u = .ok (.string (s.extract i j)) u := by
  have b1 := run_bound (P := Tryz.prog) u i j .sliceB h
  have b2 := fun c => run_bound (P := Tryz.prog) u j s.size c h2
  simp only [Instr.sliceAt, Instr.slice, Instr.sliceBounds, Sem.run_bind, run_underlying Tryz.underlying9, Result.andThen_ok, Sem.run_pure, b1, b2, Option.isSome_none, Bool.false_eq_true, if_false]
theorem sub3 (s : ByteArray) (pos : Nat) : s.extract pos (pos + 3) = mkB (((bl s).drop pos).take 3) := by
  rw [Lib.extract_eq]
  unfold mkB bl
  rw [show pos + 3 - pos = 3 by omega]
theorem pre3 {s : ByteArray} {pos : Nat} (hne : (bl s).drop pos ≠ []) (h1 : (dL ((bl s).drop pos)).1 = 65533) : ((s.extract pos (pos + 3)).toList == [239, 191, 189]) = !badL ((bl s).drop pos) := by
  rw [← pre_bad hne h1, toList_bl, sub3, bl_mk]
  unfold Lib.hasPrefix
  generalize (bl s).drop pos = l
  match l with
  | [] => rfl
  | [a] => simp [List.isPrefixOf]
  | [a, b] => simp [List.isPrefixOf]
  | a :: b :: c :: t =>
    simp only [List.take_succ_cons, List.take_zero, List.isPrefixOf]
    rw [Bool.eq_iff_iff]
    simp only [beq_iff_eq, Bool.and_eq_true, List.cons.injEq, and_true]
    constructor <;> (intro h; simp_all)
theorem bad_short {s : ByteArray} {pos : Nat} (hne : (bl s).drop pos ≠ []) (h1 : (dL ((bl s).drop pos)).1 = 65533) (h : s.size < pos + 3) : badL ((bl s).drop pos) = true := by
  have := pre_bad hne h1
  have hl : ((bl s).drop pos).length < 3 := by rw [List.length_drop, bl_len]; omega
  cases hb : badL ((bl s).drop pos) with
  | true => rfl
  | false =>
    rw [hb] at this
    unfold Lib.hasPrefix at this
    rw [Bool.not_false, List.isPrefixOf_iff_prefix] at this
    have := this.length_le
    simp at this hl
    omega
theorem drop_ne {s : ByteArray} {pos : Nat} (hp : pos < s.size) : (bl s).drop pos ≠ [] := by
  intro e
  have := congrArg List.length e
  rw [List.length_drop, bl_len] at this
  simp at this; omega
section
set_option maxHeartbeats 3200000
set_option maxRecDepth 100000
theorem rspecial_any (c : Int) (w : World) : Calls Tryz.prog 119 #[.int .i32 c] w fun e w' => e = .returned (.bool (specialP c)) ∧ w' = w := by
  by_cases hc : c = 46 ∨ c = 42 ∨ c = 43 ∨ c = 63 ∨ c = 40 ∨ c = 41 ∨ c = 91 ∨ c = 93 ∨ c = 123 ∨ c = 125 ∨ c = 124 ∨ c = 94 ∨ c = 36 ∨ c = 92
  · rcases hc with rfl | rfl | rfl | rfl | rfl | rfl | rfl | rfl | rfl | rfl | rfl | rfl | rfl | rfl
    all_goals
      go_enter Tryz.func119, Tryz.ntmps119
      go_wp2
      go_ret
      exact ⟨rfl, rfl⟩
  · have hs : specialP c = false := by
      unfold specialP
      simp only [Bool.or_eq_false_iff, beq_eq_false_iff_ne]
      omega
    have a1 : (c == 46) = false := by rw [beq_eq_false_iff_ne]; omega
    have a2 : (c == 42) = false := by rw [beq_eq_false_iff_ne]; omega
    have a3 : (c == 43) = false := by rw [beq_eq_false_iff_ne]; omega
    have a4 : (c == 63) = false := by rw [beq_eq_false_iff_ne]; omega
    have a5 : (c == 40) = false := by rw [beq_eq_false_iff_ne]; omega
    have a6 : (c == 41) = false := by rw [beq_eq_false_iff_ne]; omega
    have a7 : (c == 91) = false := by rw [beq_eq_false_iff_ne]; omega
    have a8 : (c == 93) = false := by rw [beq_eq_false_iff_ne]; omega
    have a9 : (c == 123) = false := by rw [beq_eq_false_iff_ne]; omega
    have a10 : (c == 125) = false := by rw [beq_eq_false_iff_ne]; omega
    have a11 : (c == 124) = false := by rw [beq_eq_false_iff_ne]; omega
    have a12 : (c == 94) = false := by rw [beq_eq_false_iff_ne]; omega
    have a13 : (c == 36) = false := by rw [beq_eq_false_iff_ne]; omega
    have a14 : (c == 92) = false := by rw [beq_eq_false_iff_ne]; omega
    rw [hs]
    have HS := Lib.hid hs; clear hs hc
    go_enter Tryz.func119, Tryz.ntmps119
    go_wp2
    go_ret
    exact ⟨rfl, rfl⟩
theorem rchars_any (s : ByteArray) (w : World) (hl : s.size ≤ 1000) : Calls Tryz.prog 83 #[.string s] w (ChOut w s) := by
  go_enter Tryz.func83, Tryz.ntmps83
  go_wp2
  go_loopw [3] (fun s3 wr => ∃ (v : Value) (pos : Nat) (done : List Pc), v = s3 ∧ Aside (ChRel w wr s v pos done)) (fun _ wr => s.size - wr.iterPos w.heap.size)
  case atStart => exact ⟨_, 0, [], rfl, ChRel.start w s⟩
  case round =>
    obtain ⟨v, pos, done, rfl, HK⟩ := hrel
    have hit := HK.out.it
    have hfew := HK.out.few
    have hle := HK.out.le
    by_cases hp : pos < s.size
    · have hne : (bl s).drop pos ≠ [] := drop_ne hp
      have hdd : dL ((bl s).drop pos) = Utf8.decode s pos := Lib.decodeL_drop s pos
      obtain ⟨c, wd, hcw⟩ : ∃ c wd, dL ((bl s).drop pos) = (c, wd) := ⟨_, _, rfl⟩
      have hwd : 1 ≤ wd := by have := dL_pos ((bl s).drop pos); rw [hcw] at this; exact this
      have hwl : pos + wd ≤ s.size := by have := dL_le hne; rw [hcw, List.length_drop, bl_len] at this; simp only at this; omega
      obtain ⟨w2, hw2⟩ : ∃ w2, w2 = wr.iterAt w.heap.size s (pos + wd) := ⟨_, rfl⟩
      have hnx : ∀ ty, (Instr.next (.pointer (some ⟨w.heap.size, 0, none⟩)) true ty).run Tryz.prog wr = .ok (.tuple #[.bool true, .int .i64 (pos : Nat), .int .i32 (c : Nat)]) w2 := fun ty => by
        rw [Lib.run_next_any_at wr w.heap.size s pos ty hit hp, ← hdd, hcw, hw2]
      have hs2 : w2.heap.size = wr.heap.size := by rw [hw2]; exact Lib.iterAt_size ..
      have how : w2.ownsRow (w.heap.size + 1) 168 2 v done.length (chC done) := own_moved HK.out.own fun g hg => by
        rw [hw2]; exact Lib.iterAt_other _ _ _ _ _ (by have := (HK.out.own.lt g hg).1; omega)
      have hlt := blk_lt hit
      have hbase : w.heap.size + 1 ≤ w2.heap.size := by omega
      have HN := Lib.hid (fun (w3 : World) (v' : Value) (q : Int) (x : Obj) hq ho hg => ChRel.next (w3 := w3) (v' := v') (q := q) (x := x) HK.out hw2 hp (by rw [hcw]) hwd hwl hq ho hg)
      have HB := Lib.hid hcw
      have HPRE := Lib.hid (fun (e : c = 65533) => pre3 hne (by rw [hcw]; exact e))
      have HSH := Lib.hid (fun (e : c = 65533) => bad_short hne (by rw [hcw]; exact e))
      have HIT := Lib.hid hit; have HWD := Lib.hid hwd; have HP := Lib.hid hp
      have HOW := Lib.hid how
      have hdl : done.length ≤ 1000 := by omega
      clear hne hdd hcw hwd hwl hw2 hs2 how hit
      by_cases hc : c = 65533
      · subst hc
        by_cases h3 : s.size < pos + 3
        · have hd3 : decide ((s.size : Int) - (pos : Int) < 3) = true := by simp; omega
          have hbad := HSH.out rfl h3
          have HQ := Lib.hid (fun (w3 : World) (v' : Value) (x : Obj) ho hg => HN.out w3 v' (-1) x (by rw [hbad]; rfl) ho hg)
          clear hbad h3
          go_wp2_with (first
            | (at_builtin; (refine wpList_append_g rfl _ _ 133 168 _ 2 16 infoChar Tryz.underlying133 rfl (by decide) rfl (w.heap.size + 1) v done.length (chC done) rfl (HOW.out.alloc _) _ 1 1 [.int .i32 (-1), .int .i64 (pos : Nat)] rfl (rd_row _ _ 168) rfl (chC_one [(pos, (-1))]) (by unfold maxLen; omega) (by omega) (by simp; omega) ?_; intro v4 w5 ho4 hg4; have HO4 := Lib.hid (HQ.out w5 v4 _ ho4 hg4); clear ho4 hg4))
            | fail)
          go_roundw
          case rel => exact ⟨_, _, _, rfl, HO4.out⟩
          case measure =>
            have i1 := HO4.out.it
            have i2 := HIT.out
            have i3 := HWD.out
            have i4 := HP.out
            simp only [World.iterPos, i1, i2]
            omega
        · have hd3 : decide ((s.size : Int) - (pos : Int) < 3) = false := by simp; omega
          have hd4 : ¬ ((s.size : Int) - (pos : Int) < 3) := by omega
          have hpre := HPRE.out rfl
          have hsl : ∀ u, (Instr.sliceAt 9 (.string s) (some (.int .i64 (pos : Nat))) (some (.int .i64 ((pos : Nat) + 3))) none).run Tryz.prog u = .ok (.string (s.extract pos (pos + 3))) u := fun u => by
            have e3 : ((pos : Int) + 3) = ((pos + 3 : Nat) : Int) := by omega
            rw [e3]
            exact slice_both u s pos (pos + 3) (by omega) (by omega)
          have hw3 : IntKind.i64.wrap ((pos : Int) + 3) = (pos : Int) + 3 := by simp [IntKind.wrap, IntKind.bits, IntKind.signed]; omega
          cases hbad : badL ((bl s).drop pos) with
          | true =>
            rw [hbad, Bool.not_true] at hpre
            have HQ := Lib.hid (fun (w3 : World) (v' : Value) (x : Obj) ho hg => HN.out w3 v' (-1) x (by rw [hbad]; rfl) ho hg)
            clear hbad h3
            go_wp2_with (first
              | (at_builtin; (refine wpList_append_g rfl _ _ 133 168 _ 2 16 infoChar Tryz.underlying133 rfl (by decide) rfl (w.heap.size + 1) v done.length (chC done) rfl (HOW.out.alloc _) _ 1 1 [.int .i32 (-1), .int .i64 (pos : Nat)] rfl (rd_row _ _ 168) rfl (chC_one [(pos, (-1))]) (by unfold maxLen; omega) (by omega) (by simp; omega) ?_; intro v4 w5 ho4 hg4; have HO4 := Lib.hid (HQ.out w5 v4 _ ho4 hg4); clear ho4 hg4))
              | fail)
            go_roundw
            case rel => exact ⟨_, _, _, rfl, HO4.out⟩
            case measure =>
              have i1 := HO4.out.it
              have i2 := HIT.out
              have i3 := HWD.out
              have i4 := HP.out
              simp only [World.iterPos, i1, i2]
              omega
          | false =>
            rw [hbad, Bool.not_false] at hpre
            have HQ := Lib.hid (fun (w3 : World) (v' : Value) (x : Obj) ho hg => HN.out w3 v' 65533 x (by rw [hbad, HB.out]; rfl) ho hg)
            clear hbad h3
            go_wp2_with (first
              | (at_builtin; (refine wpList_append_g rfl _ _ 133 168 _ 2 16 infoChar Tryz.underlying133 rfl (by decide) rfl (w.heap.size + 1) v done.length (chC done) rfl (HOW.out.alloc _) _ 1 1 [.int .i32 65533, .int .i64 (pos : Nat)] rfl (rd_row _ _ 168) rfl (chC_one [(pos, 65533)]) (by unfold maxLen; omega) (by omega) (by simp; omega) ?_; intro v4 w5 ho4 hg4; have HO4 := Lib.hid (HQ.out w5 v4 _ ho4 hg4); clear ho4 hg4))
              | fail)
            go_roundw
            case rel => exact ⟨_, _, _, rfl, HO4.out⟩
            case measure =>
              have i1 := HO4.out.it
              have i2 := HIT.out
              have i3 := HWD.out
              have i4 := HP.out
              simp only [World.iterPos, i1, i2]
              omega
      · have gc : ((c : Int) == 65533) = false := by rw [beq_eq_false_iff_ne]; omega
        have hbad : badL ((bl s).drop pos) = false := by
          cases h : badL ((bl s).drop pos) with
          | false => rfl
          | true => rw [badL_iff, HB.out] at h; exact absurd h.1 hc
        have HQ := Lib.hid (fun (w3 : World) (v' : Value) (x : Obj) ho hg => HN.out w3 v' (c : Int) x (by rw [hbad, HB.out]; rfl) ho hg)
        clear hbad hc
        go_wp2_with (first
          | (at_builtin; (refine wpList_append_g rfl _ _ 133 168 _ 2 16 infoChar Tryz.underlying133 rfl (by decide) rfl (w.heap.size + 1) v done.length (chC done) rfl (HOW.out.alloc _) _ 1 1 [.int .i32 (c : Int), .int .i64 (pos : Nat)] rfl (rd_row _ _ 168) rfl (chC_one [(pos, (c : Int))]) (by unfold maxLen; omega) (by omega) (by simp; omega) ?_; intro v4 w5 ho4 hg4; have HO4 := Lib.hid (HQ.out w5 v4 _ ho4 hg4); clear ho4 hg4))
          | fail)
        go_roundw
        case rel => exact ⟨_, _, _, rfl, HO4.out⟩
        case measure =>
          have i1 := HO4.out.it
          have i2 := HIT.out
          have i3 := HWD.out
          have i4 := HP.out
          simp only [World.iterPos, i1, i2]
          omega
    · obtain rfl : pos = s.size := by omega
      have hnx : ∀ ty, (Instr.next (.pointer (some ⟨w.heap.size, 0, none⟩)) true ty).run Tryz.prog wr = .ok (.tuple #[.bool false]) wr := fun ty => Lib.run_next_end_at wr w.heap.size s _ ty hit hp
      have hall : done = chAt 0 (bl s) := by
        have := HK.out.all
        rwa [List.drop_eq_nil_of_le (by rw [bl_len]; exact Nat.le_refl _), chAt_nil, List.append_nil] at this
      have HALL := Lib.hid hall
      have HB := Lib.hid HK.out.below
      obtain ⟨A, c, rfl, hr, h1, h2⟩ := own_rdg HK.out.own
      have HR := Lib.hid hr
      have HLT := Lib.hid (fun k hk => HK.out.own.lt k hk)
      clear hit hp hall hr
      go_wp2
      go_ret
      refine ⟨A, c, by rw [← HALL.out]; rfl, by rw [← HALL.out]; exact h1, h2, fun b e => ?_, by rw [← HALL.out]; exact HR.out, HB.out⟩
      have := HLT.out b (by cases A with
        | none => cases e
        | some a => exact e)
      omega
end
end Go.Proofs.YtinjdlplbficiaaGreatDoor
