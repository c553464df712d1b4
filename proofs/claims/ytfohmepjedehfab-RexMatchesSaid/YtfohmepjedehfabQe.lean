/-
  Whether a rune is one of a few signs of ASCII.
-/
import Derived.Test.YtfohmepjedehfabRd6
import Derived.Test.YtfohmepjedehfabShelf
import Derived.Test.YtfohmepjedehfabGen
import Derived.Laws.RangeAny
import Derived.Laws.Runes
import Derived.Lib.Hide
namespace Go.Proofs.Ytfohmepjedehfab
set_option linter.unusedVariables false
set_option linter.unusedSimpArgs false
open Go.RowKit
def AsciiS (s : ByteArray) : Prop := ∀ (i : Nat) (h : i < s.size), (s[i]'h).toNat < 128
theorem index_none : ∀ {l : Bs} {b : UInt8}, (∀ x ∈ l, x ≠ b) → Lib.indexByte l b < 0
  | [], b, _ => by simp [Lib.indexByte]
  | x :: t, b, h => by
    have h1 : (x == b) = false := by simpa using h x List.mem_cons_self
    have h2 := index_none (l := t) (b := b) fun y hy => h y (List.mem_cons_of_mem _ hy)
    have h3 := Lib.indexByte_ge t b
    have h4 : Lib.indexByte t b = -1 := by omega
    unfold Lib.indexByte
    rw [h1, h4]; decide
def byG (s : ByteArray) (d : Nat) : Nat := ((bl s).getD d 0).toNat
theorem run_index_g (w : World) (s : ByteArray) (k : IntKind) (d : Nat) (hd : d < s.size) :
    (Instr.index 9 (.string s) (.int k (d : Nat))).run Try.prog w = .ok (.int .u8 (byG s d : Nat)) w := by
  have hs : (s[d]'hd).toNat = byG s d := by
    unfold byG
    have : d < (bl s).length := by rw [bl_len]; exact hd
    rw [List.getD_eq_getElem?_getD, List.getElem?_eq_getElem this]
    rfl
  simp [Instr.index, asIntOf, run_underlying Try.underlying9, hd, hs]
theorem slice_from (u : World) (s : ByteArray) (k : Nat) (h : k ≤ s.size) : (Instr.sliceAt 9 (.string s) (some (.int .i64 ((k : Nat) : Int))) none none).run Try.prog u = .ok (.string (s.extract k s.size)) u := by
  have b1 := run_bound (P := Try.prog) u k s.size .sliceB h
  simp [Instr.sliceAt, Instr.slice, Instr.sliceBounds, run_underlying Try.underlying9, b1, h]
theorem extract_tailG (s : ByteArray) (n : Nat) : s.extract n s.size = mkB ((bl s).drop n) := by
  rw [Lib.extract_eq]
  unfold mkB bl
  rw [List.take_of_length_le]
  rw [List.length_drop]
  exact Nat.sub_le_sub_right (Nat.le_of_eq (bl_len s)) n
theorem bl_tailG (s : ByteArray) (n : Nat) : bl (s.extract n s.size) = (bl s).drop n := by rw [extract_tailG, bl_mk]
theorem enc_last (r : Int) (h0 : 128 ≤ r) : ∃ n, (Utf8.encode r).size = n + 1 ∧ 1 ≤ n ∧ n ≤ 3 ∧ 128 ≤ byG (Utf8.encode r) n := by
  have hb : ∀ x : Nat, x < 256 → (UInt8.ofNat x).toNat = x := fun x hx => by rw [UInt8.toNat_ofNat']; omega
  unfold Utf8.encode
  simp only
  have hc : 128 ≤ (if Utf8.valid r = true then r.toNat else Utf8.runeError) := by
    split
    · omega
    · exact (by decide : 128 ≤ 65533)
  generalize (if Utf8.valid r = true then r.toNat else Utf8.runeError) = c at hc
  rw [if_neg (by omega)]
  split
  · exact ⟨1, rfl, by omega, by omega, by show 128 ≤ (UInt8.ofNat (128 + c % 64)).toNat; rw [hb _ (by omega)]; omega⟩
  · split
    · exact ⟨2, rfl, by omega, by omega, by show 128 ≤ (UInt8.ofNat (128 + c % 64)).toNat; rw [hb _ (by omega)]; omega⟩
    · exact ⟨3, rfl, by omega, by omega, by show 128 ≤ (UInt8.ofNat (128 + c % 64)).toNat; rw [hb _ (by omega)]; omega⟩
theorem byG_ascii {s : ByteArray} (h : AsciiS s) {n : Nat} (hn : n < s.size) : byG s n < 128 := by
  have := h n hn
  unfold byG
  have h2 : n < (bl s).length := by rw [bl_len]; exact hn
  rw [List.getD_eq_getElem?_getD, List.getElem?_eq_getElem h2]
  exact this
theorem ascii_mem {s : ByteArray} (h : AsciiS s) {x : UInt8} (hx : x ∈ bl s) : x.toNat < 128 := by
  obtain ⟨i, hi, e⟩ := List.mem_iff_getElem.mp hx
  have := h i (by rw [← bl_len]; exact hi)
  rw [← e]; exact this
section
set_option maxHeartbeats 1600000
set_option maxRecDepth 100000
theorem irune_high (s : ByteArray) (r : Int) (w : World) (hs : AsciiS s) (h4 : 4 ≤ s.size) (hl : s.size ≤ 1000) (h0 : 128 ≤ r) (h1 : r ≤ 1114111) :
    Calls Try.prog 72 #[.string s, .int .i32 r] w fun e w' => e = .returned (.int .i64 (-1)) ∧ RowKit.Below w.heap.size w w' := by
  have g0 : (0 : Int) ≤ r := by omega
  have g1 : ¬ r < 128 := by omega
  by_cases hE : r = 65533
  · subst hE
    go_enter Try.func72, Try.ntmps72
    go_wp2
    go_loopw [] (fun wr => ∃ pos : Nat, wr = w.iter s pos ∧ pos ≤ s.size) (fun wr => s.size - wr.iterPos w.heap.size)
    case atStart => exact ⟨0, rfl, by omega⟩
    case round =>
      obtain ⟨pos, rfl, hp⟩ := hrel
      have hbw : ∀ q, RowKit.Below w.heap.size w (w.iter s q) := fun q => (RowKit.Below.refl _ w).alloc (Nat.le_refl _) _
      have HBW := Lib.hid hbw; clear hbw
      by_cases hlt : pos < s.size
      · have hnx : ∀ ty, (Instr.next (.pointer (some ⟨w.heap.size, 0, none⟩)) true ty).run Try.prog (w.iter s pos) = _ := fun ty => run_next_ascii w s pos ty hlt (hs pos hlt)
        have hc := hs pos hlt
        generalize (s[pos]'hlt).toNat = c at hnx hc
        have hcc : ((c : Int) == 65533) = false := by rw [beq_eq_false_iff_ne]; omega
        go_wp2
        go_roundw
        case rel => exact ⟨pos + 1, rfl, by omega⟩
        case measure => simp; omega
      · have hnx : ∀ ty, (Instr.next (.pointer (some ⟨w.heap.size, 0, none⟩)) true ty).run Try.prog (w.iter s pos) = _ := fun ty => run_next_end w s pos ty hlt
        go_wp2
        go_ret
        exact ⟨rfl, HBW.out _⟩
  · have g2 : (r == 65533) = false := by rw [beq_eq_false_iff_ne]; exact hE
    have hv := fun W => Try.utf8_ValidRune r W
    cases hvr : Lib.validRune r with
    | false =>
      rw [hvr] at hv
      have HV := Lib.hid hv; clear hv hvr
      go_enter Try.func72, Try.ntmps72
      go_wp2_with fail
      refine (HV.out _).mono ?_
      rintro e w1 ⟨rfl, rfl⟩
      go_wp2
      go_ret
      exact ⟨rfl, RowKit.Below.refl _ _⟩
    | true =>
      rw [hvr] at hv
      have HV := Lib.hid hv; clear hv hvr
      go_enter Try.func72, Try.ntmps72
      go_wp2_with fail
      refine (HV.out _).mono ?_
      rintro e w1 ⟨rfl, rfl⟩
      obtain ⟨E, hEE⟩ : ∃ E, Utf8.encode r = E := ⟨_, rfl⟩
      obtain ⟨n, hn⟩ : ∃ n, E.size = n + 1 ∧ 1 ≤ n ∧ n ≤ 3 ∧ 128 ≤ byG E n := by rw [← hEE]; exact enc_last r h0
      obtain ⟨hn, hn1, hn3, hb⟩ := hn
      have hix : ∀ u, (Instr.index 9 (.string E) (.int .i64 (n : Nat))).run Try.prog u = .ok (.int .u8 (byG E n : Nat)) u := fun u => run_index_g u E .i64 n (by omega)
      have hix2 : ∀ u, (Instr.index 9 (.string s) (.int .i64 (n : Nat))).run Try.prog u = .ok (.int .u8 (byG s n : Nat)) u := fun u => run_index_g u s .i64 n (by omega)
      have ha : byG s n < 128 := byG_ascii hs (by omega)
      have hb2 : byG E n < 256 := UInt8.toNat_lt _
      generalize byG E n = b at hix hb hb2
      generalize byG s n = a at hix2 ha
      have hab : ((a : Int) != (b : Int)) = true := by rw [bne_iff_ne]; omega
      have hsz : (E.size : Int) - 1 = n := by omega
      have g4 : ((n : Int)) < (s.size : Int) := by omega
      obtain ⟨o, ho⟩ : ∃ o : Int, o = Lib.indexByte (s.extract (n + 1) s.size).data.toList (b : Int).toNat.toUInt8 := ⟨_, rfl⟩
      have ho0 : o < 0 := by
        rw [ho]
        refine index_none fun x hx e => ?_
        have h1 : x ∈ bl s := by
          have : (s.extract (n + 1) s.size).data.toList = (bl s).drop (n + 1) := by
            exact bl_tailG s (n + 1)
          rw [this] at hx
          exact List.mem_of_mem_drop hx
        have h2 := ascii_mem hs h1
        rw [e] at h2
        have h3 : ((b : Int).toNat.toUInt8).toNat = b := by
          show (UInt8.ofNat (b : Int).toNat).toNat = b
          rw [UInt8.toNat_ofNat']; omega
        omega
      have hcall := fun W => Try.strings_IndexByte (s.extract (n + 1) s.size) (b : Int) W
      rw [← ho] at hcall
      have HC := Lib.hid hcall; clear hcall ho
      have g5 : (n : Int) + 1 ≤ (s.size : Int) := by omega
      have g6 : n + 1 ≤ s.size := by omega
      have hwr : IntKind.i64.wrap ((n : Int) + 1) = (n : Int) + 1 := by simp [IntKind.wrap, IntKind.bits, IntKind.signed]; omega
      have hsl : ∀ u, (Instr.sliceAt 9 (.string s) (some (.int .i64 ((n : Int) + 1))) none none).run Try.prog u = .ok (.string (s.extract (n + 1) s.size)) u := fun u => slice_from u s (n + 1) g6
      clear hs hb hn3
      go_wp2
      go_step3
      go_wp2
      go_loopw [9] (fun s9 wr => s9 = .int .i64 (n : Nat) ∧ wr = w1) (fun _ _ => 0)
      case atStart => exact ⟨rfl, rfl⟩
      case round =>
        obtain ⟨rfl, rfl⟩ := hrel
        go_wp2_with fail
        go_step3
        go_wp2_with fail
        go_quiet (fail)
        go_wp2_with fail
        go_quiet (first | (go_at_call 83; with_reducible exact (HC.out _).mono fun _ _ h => ⟨h.1, _, h.2⟩) | fail)
        go_wp2
        rw [Exit.noGoto_ret]
        go_wp2
        rw [Exit.noGoto_ret]
        go_ret
        exact ⟨rfl, below_drewN (RowKit.Below.refl _ _) _⟩
theorem contains_high (s : ByteArray) (r : Int) (w : World) (hs : AsciiS s) (h4 : 4 ≤ s.size) (hl : s.size ≤ 1000) (h0 : 128 ≤ r) (h1 : r ≤ 1114111) :
    Calls Try.prog 54 #[.string s, .int .i32 r] w fun e w' => e = .returned (.bool false) ∧ RowKit.Below w.heap.size w w' := by
  have hi := irune_high s r w hs h4 hl h0 h1
  have HI := Lib.hid hi; clear hi
  go_enter Try.func54, Try.ntmps54
  go_wp2_with fail
  refine HI.out.mono ?_
  rintro e w1 ⟨rfl, hb⟩
  go_wp2
  go_ret
  exact ⟨rfl, hb⟩
theorem signs_low : ∀ n : Nat, n < 128 → decide (0 ≤ Lib.indexByte [46, 42, 43, 63, 40, 41, 91, 93, 123, 125, 124, 94, 36, 92] ((n : Nat) : Int).toNat.toUInt8) = (specialP ((n : Nat) : Int)) := by decide
/-- What stands for itself only behind a backslash. -/
theorem signs_any (r : Int) (w : World) (h0 : 0 ≤ r) (h1 : r ≤ 1114111) : Calls Try.prog 54 #[.string ⟨#[46, 42, 43, 63, 40, 41, 91, 93, 123, 125, 124, 94, 36, 92]⟩, .int .i32 r] w fun e w' => e = .returned (.bool (specialP r)) ∧ RowKit.Below w.heap.size w w' := by
  by_cases h : r < 128
  · refine (Try.strings_ContainsRune_ascii _ r w h0 h).mono ?_
    rintro e w' ⟨rfl, rfl⟩
    refine ⟨?_, RowKit.Below.refl _ _⟩
    obtain ⟨n, rfl⟩ := Int.eq_ofNat_of_zero_le h0
    have := signs_low n (by omega)
    rw [← this]
  · refine (contains_high _ r w ?_ (by decide) (by decide) (by omega) h1).mono ?_
    · intro i hi
      have hx : ((⟨#[46, 42, 43, 63, 40, 41, 91, 93, 123, 125, 124, 94, 36, 92]⟩ : ByteArray)[i]'hi) ∈ ([46, 42, 43, 63, 40, 41, 91, 93, 123, 125, 124, 94, 36, 92] : List UInt8) := List.getElem_mem (l := [46, 42, 43, 63, 40, 41, 91, 93, 123, 125, 124, 94, 36, 92]) hi
      revert hx
      generalize ((⟨#[46, 42, 43, 63, 40, 41, 91, 93, 123, 125, 124, 94, 36, 92]⟩ : ByteArray)[i]'hi) = x
      intro hx
      simp only [List.mem_cons, List.not_mem_nil, or_false] at hx
      rcases hx with rfl | rfl | rfl | rfl | rfl | rfl | rfl | rfl | rfl | rfl | rfl | rfl | rfl | rfl <;> decide
    · rintro e w' ⟨rfl, hb⟩
      refine ⟨?_, hb⟩
      have : (specialP r) = false := by
        unfold specialP
        simp only [Bool.or_eq_false_iff, beq_eq_false_iff_ne]
        omega
      rw [this]
theorem marks_low : ∀ n : Nat, n < 128 → decide (0 ≤ Lib.indexByte [46, 42, 43, 63, 40, 41, 91, 93, 123, 125, 124, 94, 36, 92, 45, 47] ((n : Nat) : Int).toNat.toUInt8) = (specialP ((n : Nat) : Int) || ((n : Nat) : Int) == 45 || ((n : Nat) : Int) == 47) := by decide
/-- What may stand behind a backslash. -/
theorem marks_any (r : Int) (w : World) (h0 : 0 ≤ r) (h1 : r ≤ 1114111) : Calls Try.prog 54 #[.string ⟨#[46, 42, 43, 63, 40, 41, 91, 93, 123, 125, 124, 94, 36, 92, 45, 47]⟩, .int .i32 r] w fun e w' => e = .returned (.bool (specialP r || r == 45 || r == 47)) ∧ RowKit.Below w.heap.size w w' := by
  by_cases h : r < 128
  · refine (Try.strings_ContainsRune_ascii _ r w h0 h).mono ?_
    rintro e w' ⟨rfl, rfl⟩
    refine ⟨?_, RowKit.Below.refl _ _⟩
    obtain ⟨n, rfl⟩ := Int.eq_ofNat_of_zero_le h0
    have := marks_low n (by omega)
    rw [← this]
  · refine (contains_high _ r w ?_ (by decide) (by decide) (by omega) h1).mono ?_
    · intro i hi
      have hx : ((⟨#[46, 42, 43, 63, 40, 41, 91, 93, 123, 125, 124, 94, 36, 92, 45, 47]⟩ : ByteArray)[i]'hi) ∈ ([46, 42, 43, 63, 40, 41, 91, 93, 123, 125, 124, 94, 36, 92, 45, 47] : List UInt8) := List.getElem_mem (l := [46, 42, 43, 63, 40, 41, 91, 93, 123, 125, 124, 94, 36, 92, 45, 47]) hi
      revert hx
      generalize ((⟨#[46, 42, 43, 63, 40, 41, 91, 93, 123, 125, 124, 94, 36, 92, 45, 47]⟩ : ByteArray)[i]'hi) = x
      intro hx
      simp only [List.mem_cons, List.not_mem_nil, or_false] at hx
      rcases hx with rfl | rfl | rfl | rfl | rfl | rfl | rfl | rfl | rfl | rfl | rfl | rfl | rfl | rfl | rfl | rfl <;> decide
    · rintro e w' ⟨rfl, hb⟩
      refine ⟨?_, hb⟩
      have : (specialP r || r == 45 || r == 47) = false := by
        unfold specialP
        simp only [Bool.or_eq_false_iff, beq_eq_false_iff_ne]
        omega
      rw [this]
theorem outs_low : ∀ n : Nat, n < 128 → decide (0 ≤ Lib.indexByte [91, 93, 94, 45] ((n : Nat) : Int).toNat.toUInt8) = (outsideP ((n : Nat) : Int)) := by decide
/-- What stands for itself in a class only behind a backslash. -/
theorem outs_any (r : Int) (w : World) (h0 : 0 ≤ r) (h1 : r ≤ 1114111) : Calls Try.prog 54 #[.string ⟨#[91, 93, 94, 45]⟩, .int .i32 r] w fun e w' => e = .returned (.bool (outsideP r)) ∧ RowKit.Below w.heap.size w w' := by
  by_cases h : r < 128
  · refine (Try.strings_ContainsRune_ascii _ r w h0 h).mono ?_
    rintro e w' ⟨rfl, rfl⟩
    refine ⟨?_, RowKit.Below.refl _ _⟩
    obtain ⟨n, rfl⟩ := Int.eq_ofNat_of_zero_le h0
    have := outs_low n (by omega)
    rw [← this]
  · refine (contains_high _ r w ?_ (by decide) (by decide) (by omega) h1).mono ?_
    · intro i hi
      have hx : ((⟨#[91, 93, 94, 45]⟩ : ByteArray)[i]'hi) ∈ ([91, 93, 94, 45] : List UInt8) := List.getElem_mem (l := [91, 93, 94, 45]) hi
      revert hx
      generalize ((⟨#[91, 93, 94, 45]⟩ : ByteArray)[i]'hi) = x
      intro hx
      simp only [List.mem_cons, List.not_mem_nil, or_false] at hx
      rcases hx with rfl | rfl | rfl | rfl <;> decide
    · rintro e w' ⟨rfl, hb⟩
      refine ⟨?_, hb⟩
      have : (outsideP r) = false := by
        unfold outsideP
        simp only [Bool.or_eq_false_iff, beq_eq_false_iff_ne]
        omega
      rw [this]
end
end Go.Proofs.Ytfohmepjedehfab
