/-
  The places of a text, walked.
-/
import Derived.Test.YtfohmepjedehfabQp
namespace Go.Proofs.Ytfohmepjedehfab
set_option linter.unusedVariables false
set_option linter.unusedSimpArgs false
open Go.RowKit
theorem PlRel.start (w : World) (s : ByteArray) : PlRel w (w.iter s 0) s (.slice none 0 0) 0 [] := by
  have h := World.iter_heap w s 0
  refine ⟨⟨rfl, .inl ⟨rfl, rfl⟩⟩, by simpa using h, (RowKit.Below.refl _ w).alloc (Nat.le_refl _) _, by simp, Nat.le_refl _, Nat.zero_le _⟩
theorem PlRel.done' {w wr w3 : World} {s : ByteArray} {v v' : Value} {done : List Pc} {x : Obj} (k : PlRel w wr s v s.size done) (ho : w3.ownsRow (w.heap.size + 1) 135 2 v' (done.length + 1) (pcC done ++ [.int .i64 (s.size : Nat), .int .i32 (-1)])) (hg : (wr.alloc x).grownBy w3 v.ownBlock) : PlOut w s (.returned v') w3 := by
  have hl := blk_lt k.it
  have hall : placesAt 0 (bl s) = done ++ [(s.size, -1)] := by
    have := k.all
    rw [List.drop_eq_nil_of_le (by rw [bl_len]; exact Nat.le_refl _), placesAt_nil] at this
    exact this.symm
  have mg : Mv (fun i => v.ownBlock = some i) (wr.alloc x) w3 := (Mv.refl _ _).grown hg fun _ _ h => h
  obtain ⟨b, c, e1, h1, h2, h3, h4, h5⟩ := own_some ho (by omega)
  refine ⟨b, c, by rw [hall, e1, List.length_append]; rfl, by rw [hall, List.length_append]; exact h1, h2, by omega, h4, by rw [hall, pcC_app]; exact h5, ?_⟩
  exact (k.below.alloc (by have := k.below.size; omega) x).trans (mg.belowB (B := w.heap.size) (by rw [World.size_alloc]; omega) fun i hi e => by have := (k.own.lt _ e).1; omega)
section
set_option maxHeartbeats 3200000
set_option maxRecDepth 100000
theorem places_any (s : ByteArray) (w : World) (hl : s.size ≤ 1000) : Calls Try.prog 58 #[.string s] w (PlOut w s) := by
  go_enter Try.func58, Try.ntmps58
  go_wp2
  go_loopw [3] (fun s3 wr => ∃ (v : Value) (pos : Nat) (done : List Pc), v = s3 ∧ Aside (PlRel w wr s v pos done)) (fun _ wr => s.size - wr.iterPos w.heap.size)
  case atStart => exact ⟨_, 0, [], rfl, PlRel.start w s⟩
  case round =>
    obtain ⟨v, pos, done, rfl, HK⟩ := hrel
    have hit := HK.out.it
    have hfew := HK.out.few
    have hle := HK.out.le
    by_cases hp : pos < s.size
    · have hne : (bl s).drop pos ≠ [] := by
        intro e
        have := congrArg List.length e
        rw [List.length_drop, bl_len] at this
        simp at this; omega
      have hdd : dL ((bl s).drop pos) = Utf8.decode s pos := Lib.decodeL_drop s pos
      obtain ⟨c, wd, hcw⟩ : ∃ c wd, dL ((bl s).drop pos) = (c, wd) := ⟨_, _, rfl⟩
      have hwd : 1 ≤ wd := by have := dL_pos ((bl s).drop pos); rw [hcw] at this; exact this
      have hwl : pos + wd ≤ s.size := by have := dL_le hne; rw [hcw, List.length_drop, bl_len] at this; simp only at this; omega
      obtain ⟨w2, hw2⟩ : ∃ w2, w2 = wr.iterAt w.heap.size s (pos + wd) := ⟨_, rfl⟩
      have hnx : ∀ ty, (Instr.next (.pointer (some ⟨w.heap.size, 0, none⟩)) true ty).run Try.prog wr = .ok (.tuple #[.bool true, .int .i64 (pos : Nat), .int .i32 (c : Nat)]) w2 := fun ty => by
        rw [Lib.run_next_any_at wr w.heap.size s pos ty hit hp, ← hdd, hcw, hw2]
      have hs2 : w2.heap.size = wr.heap.size := by rw [hw2]; exact Lib.iterAt_size ..
      have how : w2.ownsRow (w.heap.size + 1) 135 2 v done.length (pcC done) := own_moved HK.out.own fun g hg => by
        rw [hw2]; exact Lib.iterAt_other _ _ _ _ _ (by have := (HK.out.own.lt g hg).1; omega)
      have hlt := blk_lt hit
      have hbase : w.heap.size + 1 ≤ w2.heap.size := by omega
      have HN := Lib.hid (fun (w3 : World) (v' : Value) (q : Int) (x : Obj) hq ho hg => PlRel.next (w3 := w3) (v' := v') (q := q) (x := x) HK.out hw2 hp (by rw [hcw]) hwd hwl hq ho hg)
      have HB := Lib.hid hcw
      have HPRE := Lib.hid (fun (e : c = 65533) => pre_bad hne (by rw [hcw]; exact e))
      have hsl : ∀ u, (Instr.sliceAt 9 (.string s) (some (.int .i64 (pos : Nat))) none none).run Try.prog u = .ok (.string (s.extract pos s.size)) u := fun u => slice_from u s pos (by omega)
      have HIT := Lib.hid hit; have HWD := Lib.hid hwd; have HP := Lib.hid hp
      have HOW := Lib.hid how
      have hdl : done.length ≤ 1000 := by omega
      clear hne hdd hcw hwd hwl hw2 hs2 how hit
      by_cases hc : c = 65533
      · subst hc
        have hpre := HPRE.out rfl
        have hcall := fun W => Try.strings_HasPrefix (s.extract pos s.size) ⟨#[239, 191, 189]⟩ W
        have hex : (s.extract pos s.size).data.toList = (bl s).drop pos := bl_tailG s pos
        rw [hex, show ((⟨#[239, 191, 189]⟩ : ByteArray).data.toList) = [239, 191, 189] from rfl, hpre] at hcall
        cases hbad : badL ((bl s).drop pos) with
        | true =>
          rw [hbad] at hcall
          have HC := Lib.hid hcall
          have HQ := Lib.hid (fun (w3 : World) (v' : Value) (x : Obj) ho hg => HN.out w3 v' (-2) x (by rw [hbad]; rfl) ho hg)
          clear hcall hpre hex hbad
          go_wp2_with fail
          refine (HC.out _).mono ?_
          rintro e w4 ⟨rfl, rfl⟩
          go_wp2_with (first
            | (at_builtin; (refine wpList_append_g rfl _ _ 109 135 _ 2 16 infoPlace Try.underlying109 rfl (by decide) rfl (w.heap.size + 1) v done.length (pcC done) rfl (HOW.out.alloc _) _ 1 1 [.int .i64 (pos : Nat), .int .i32 (-2)] rfl (rd_row _ _ 135) rfl (pcC_one [(pos, (-2))]) (by unfold maxLen; omega) (by omega) (by simp; omega) ?_; intro v4 w5 ho4 hg4; have HO4 := Lib.hid (HQ.out w5 v4 _ ho4 hg4); clear ho4 hg4))
            | fail)
          go_roundw
          case rel => exact ⟨_, _, _, rfl, HO4.out⟩
          case measure =>
            have i1 := HO4.out.it
            have i2 := HIT.out
            have i3 := HWD.out
            have i4 := HP.out
            simp only [World.iterPos, i1, i2]
            omega
        | false =>
          rw [hbad] at hcall
          have HC := Lib.hid hcall
          have HQ := Lib.hid (fun (w3 : World) (v' : Value) (x : Obj) ho hg => HN.out w3 v' 65533 x (by rw [hbad, HB.out]; rfl) ho hg)
          clear hcall hpre hex hbad
          go_wp2_with fail
          refine (HC.out _).mono ?_
          rintro e w4 ⟨rfl, rfl⟩
          go_wp2_with (first
            | (at_builtin; (refine wpList_append_g rfl _ _ 109 135 _ 2 16 infoPlace Try.underlying109 rfl (by decide) rfl (w.heap.size + 1) v done.length (pcC done) rfl (HOW.out.alloc _) _ 1 1 [.int .i64 (pos : Nat), .int .i32 (65533)] rfl (rd_row _ _ 135) rfl (pcC_one [(pos, (65533))]) (by unfold maxLen; omega) (by omega) (by simp; omega) ?_; intro v4 w5 ho4 hg4; have HO4 := Lib.hid (HQ.out w5 v4 _ ho4 hg4); clear ho4 hg4))
            | fail)
          go_roundw
          case rel => exact ⟨_, _, _, rfl, HO4.out⟩
          case measure =>
            have i1 := HO4.out.it
            have i2 := HIT.out
            have i3 := HWD.out
            have i4 := HP.out
            simp only [World.iterPos, i1, i2]
            omega
      · have gc : ((c : Int) == 65533) = false := by rw [beq_eq_false_iff_ne]; omega
        have hbad : badL ((bl s).drop pos) = false := by
          cases h : badL ((bl s).drop pos) with
          | false => rfl
          | true => rw [badL_iff, HB.out] at h; exact absurd h.1 hc
        have HQ := Lib.hid (fun (w3 : World) (v' : Value) (x : Obj) ho hg => HN.out w3 v' (c : Int) x (by rw [hbad, HB.out]; rfl) ho hg)
        clear hbad hc
        go_wp2_with (first
          | (at_builtin; (refine wpList_append_g rfl _ _ 109 135 _ 2 16 infoPlace Try.underlying109 rfl (by decide) rfl (w.heap.size + 1) v done.length (pcC done) rfl (HOW.out.alloc _) _ 1 1 [.int .i64 (pos : Nat), .int .i32 (c : Int)] rfl (rd_row _ _ 135) rfl (pcC_one [(pos, (c : Int))]) (by unfold maxLen; omega) (by omega) (by simp; omega) ?_; intro v4 w5 ho4 hg4; have HO4 := Lib.hid (HQ.out w5 v4 _ ho4 hg4); clear ho4 hg4))
          | fail)
        go_roundw
        case rel => exact ⟨_, _, _, rfl, HO4.out⟩
        case measure =>
          have i1 := HO4.out.it
          have i2 := HIT.out
          have i3 := HWD.out
          have i4 := HP.out
          simp only [World.iterPos, i1, i2]
          omega
    · obtain rfl : pos = s.size := by omega
      have hnx : ∀ ty, (Instr.next (.pointer (some ⟨w.heap.size, 0, none⟩)) true ty).run Try.prog wr = .ok (.tuple #[.bool false]) wr := fun ty => Lib.run_next_end_at wr w.heap.size s _ ty hit hp
      have hlt := blk_lt hit
      have HOW := Lib.hid HK.out.own
      have HD := Lib.hid (fun (w3 : World) (v' : Value) (x : Obj) ho hg => HK.out.done' (w3 := w3) (v' := v') (x := x) ho hg)
      clear hit hp
      go_wp2_with (first
        | (at_builtin; (refine wpList_append_g rfl _ _ 109 135 _ 2 16 infoPlace Try.underlying109 rfl (by decide) rfl (w.heap.size + 1) v done.length (pcC done) rfl (HOW.out.alloc _) _ 1 1 [.int .i64 (s.size : Nat), .int .i32 (-1)] rfl (rd_row _ _ 135) rfl (pcC_one [(s.size, -1)]) (by unfold maxLen; omega) (by omega) (by simp; omega) ?_; intro v4 w4 ho4 hg4; have HO4 := Lib.hid (HD.out w4 v4 _ ho4 hg4); clear ho4 hg4))
        | fail)
      go_ret
      exact HO4.out
end
end Go.Proofs.Ytfohmepjedehfab
