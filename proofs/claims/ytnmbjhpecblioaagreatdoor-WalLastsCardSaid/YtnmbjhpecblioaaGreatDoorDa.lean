/-
  The disk's calls that write nothing: made, find, Read, Lasts, Room; New; what is a name.
-/
import Derived.Test.YtnmbjhpecblioaaGreatDoorDk
import Derived.Test.YtnmbjhpecblioaaGreatDoorShelf
namespace Go.Proofs.YtnmbjhpecblioaaGreatDoor
set_option linter.unusedVariables false
set_option linter.unusedSimpArgs false
open Go.Maps Go.RowKit
theorem zeroPf (w : World) : (zeroValue 89).run Tryz.prog w = .ok (.pointer none) w := by kernel_rfl
section
set_option maxHeartbeats 1600000
set_option maxRecDepth 100000
theorem made_nil (w : World) : Calls Tryz.prog 51 #[.pointer none] w fun e w' => e = .returned (.bool false) ∧ w = w' := by
  go_enter Tryz.func51, Tryz.ntmps51
  go_wp2
  go_ret
  exact ⟨rfl, rfl⟩
theorem neq_nilmap (w : World) : (binOp .neq 70 (.map none) (.map none)).run Tryz.prog w = .ok (.bool false) w := by kernel_rfl
theorem neq_somemap (b : Nat) (w : World) : (binOp .neq 70 (.map (some b)) (.map none)).run Tryz.prog w = .ok (.bool true) w := by first | rfl | kernel_rfl
theorem made_zero {w : World} {db : Nat} {r : Int} (h : w.heap[db]? = some (.cells #[.map none, .int .i64 r] 72 (0, 0))) : Calls Tryz.prog 51 #[.pointer (some ⟨db, 0, none⟩)] w fun e w' => e = .returned (.bool false) ∧ w = w' := by
  have c0 := cell_blk h 0; have c1 := cell_blk h 1
  simp only [List.getElem?_toArray, List.getElem?_cons_succ, List.getElem?_cons_zero] at c0 c1
  have hn := neq_nilmap
  go_enter Tryz.func51, Tryz.ntmps51
  go_wp2
  go_ret
  exact ⟨rfl, rfl⟩
theorem made_any {w : World} {db mb room : Nat} (h : w.heap[db]? = some (.cells #[.map (some mb), .int .i64 (room : Nat)] 72 (0, 0))) : Calls Tryz.prog 51 #[.pointer (some ⟨db, 0, none⟩)] w fun e w' => e = .returned (.bool true) ∧ w = w' := by
  have c0 := cell_blk h 0; have c1 := cell_blk h 1
  simp only [List.getElem?_toArray, List.getElem?_cons_succ, List.getElem?_cons_zero] at c0 c1
  have hn := neq_somemap mb
  go_enter Tryz.func51, Tryz.ntmps51
  go_wp2
  go_ret
  exact ⟨rfl, rfl⟩
def findV : Option Ent → Value
  | none => .tuple #[.pointer none, .int .i64 4]
  | some x => .tuple #[.pointer (some ⟨x.bx, 0, none⟩), .int .i64 0]
theorem find_any {w : World} {db mb room : Nat} {es : List Ent} (h : DiskE w db mb room es) (s : ByteArray) (hs : s.size ≤ maxLen) : Calls Tryz.prog 60 #[.pointer (some ⟨db, 0, none⟩), .string s] w fun e w' => e = .returned (findV (lookE es s)) ∧ w = w' := by
  have c0 := cell_blk h.box 0; have c1 := cell_blk h.box 1
  simp only [List.getElem?_toArray, List.getElem?_cons_succ, List.getElem?_cons_zero] at c0 c1
  have HM := Lib.hid (made_any h.box); have HMP := Lib.hid h.map
  cases hl : lookE es s with
  | none =>
    have HL := Lib.hid hl; clear hl
    unfold findV
    go_enter Tryz.func60, Tryz.ntmps60
    go_wp2_with (first
      | (go_at_call 51; refine HM.out.mono ?_; rintro e w1 ⟨rfl, rfl⟩)
      | (at_lookup; go_must (refine wpList_look_none rfl _ _ 70 rfl 9 89 Tryz.underlying9 Tryz.underlying70 (zeroPf _) mb _ es rfl HMP.out s rfl hs HL.out ?_))
      | fail)
    go_ret2
    exact ⟨rfl, rfl⟩
  | some x =>
    have HL := Lib.hid hl; clear hl
    unfold findV
    go_enter Tryz.func60, Tryz.ntmps60
    go_wp2_with (first
      | (go_at_call 51; refine HM.out.mono ?_; rintro e w1 ⟨rfl, rfl⟩)
      | (at_lookup; go_must (refine wpList_look_some rfl _ _ 70 rfl 9 89 Tryz.underlying9 Tryz.underlying70 (zeroPf _) mb _ es rfl HMP.out s rfl hs x HL.out ?_))
      | fail)
    go_ret2
    exact ⟨rfl, rfl⟩
theorem find_not {w : World} {p : Option Addr} (hm : Calls Tryz.prog 51 #[.pointer p] w fun e w' => e = .returned (.bool false) ∧ w = w') (s : ByteArray) : Calls Tryz.prog 60 #[.pointer p, .string s] w fun e w' => e = .returned (.tuple #[.pointer none, .int .i64 2]) ∧ w = w' := by
  have HM := Lib.hid hm; clear hm
  go_enter Tryz.func60, Tryz.ntmps60
  go_wp2_with (first
    | (go_at_call 51; refine HM.out.mono ?_; rintro e w1 ⟨rfl, rfl⟩)
    | fail)
  go_ret2
  exact ⟨rfl, rfl⟩
end
end Go.Proofs.YtnmbjhpecblioaaGreatDoor
