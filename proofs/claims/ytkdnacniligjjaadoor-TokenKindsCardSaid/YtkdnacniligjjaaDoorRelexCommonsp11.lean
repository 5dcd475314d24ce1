/-
  Contracts of strings.Builder at this program: copyCheck, WriteString (walked), String (the shelf's).; Contracts of strings.Builder's WriteByte and Len at this program.; The contract of token's Text.
-/
import Derived.Test.YtkdnacniligjjaaDoorRelexCommonsp9
import Derived.Test.YtkdnacniligjjaaDoorRows
import Derived.Shelf.Strings.Builder1
import Derived.Lib.OthersKept
import Derived.Test.YtkdnacniligjjaaDoorRelexCommonsp1
import Derived.Deep.AppendLies
import Derived.Test.YtkdnacniligjjaaDoorRelexCommonsp8
import Derived.Deep.RegionHeld3
namespace Go.Proofs.YtkdnacniligjjaaDoor
open Go.RowKit Go.Shelf

def ren169 : Go.Shelf.Ren := ⟨fun | 169 => 79 | n => n, fun | 70 => 104 | 9 => 9 | 0 => 0 | 72 => 106 | 37 => 90 | 127 => 129 | 3 => 3 | 5 => 5 | n => n, fun | n => n⟩
theorem lays169 : Go.Proofs.Lays.n169 Tryd.prog ren169 := {
  mixed := by kernel_rfl
  f169 := Tryd.func79.trans (congrArg some (by kernel_rfl))
  t0 := Tryd.underlying0
  a0 := Tryd.isAgg0
  z0 := Tryd.sizeOf0
  v0 := Tryd.zeroValue0
  t3 := Tryd.underlying3
  a3 := Tryd.isAgg3
  z3 := Tryd.sizeOf3
  v3 := Tryd.zeroValue3
  t9 := Tryd.underlying9
  a9 := Tryd.isAgg9
  z9 := Tryd.sizeOf9
  v9 := Tryd.zeroValue9
  t37 := Tryd.underlying90
  a37 := Tryd.isAgg90
  z37 := Tryd.sizeOf90
  v37 := Tryd.zeroValue90
  t70 := Tryd.underlying104
  a70 := Tryd.isAgg104
  z70 := Tryd.sizeOf104
  v70 := Tryd.zeroValue104
  t72 := Tryd.underlying106
  a72 := Tryd.isAgg106
  z72 := Tryd.sizeOf106
  v72 := Tryd.zeroValue106
  t127 := Tryd.underlying129
  a127 := Tryd.isAgg129
  z127 := Tryd.sizeOf129
  v127 := Tryd.zeroValue129 }
theorem extra169 : Builder.Extra Tryd.prog ren169 := {
  sizeBuilder := by kernel_rfl
  liesBuilder := by kernel_rfl
  t5 := Tryd.underlying5
  a5 := Tryd.isAgg5
  z5 := Tryd.sizeOf5
  v5 := Tryd.zeroValue5
  infoByte := by kernel_rfl
  cellsByte := by kernel_rfl
  sizeByte := by kernel_rfl
  neB5 := by decide }

/-- a builder of the call's own (block b, from B on) that holds the bytes l -/
abbrev Bld (B b : Nat) (l : List UInt8) (w : World) : Prop := Lib.IsBuilder 106 5 B b (Lib.byteCells l) w

theorem BString_any (B b : Nat) (l : List UInt8) (w : World) (h : Bld B b l w) (hBw : B ≤ w.heap.size) :
    Calls Tryd.prog 79 #[.pointer (some ⟨b, 0, none⟩)] w fun e w' => e = .returned (.string ⟨l.toArray⟩) ∧ Below B w w' :=
  Any.Builder_String_any lays169 extra169 B b l w h hBw

theorem sizeBuilder : (Tryd.prog.info? 106).map (·.size) = some 2 := by kernel_rfl

set_option maxHeartbeats 1000000 in
set_option maxRecDepth 100000 in
theorem copyCheck_fresh (b : Nat) (w : World) (h0 : w.cell? ⟨b, 0, none⟩ = some (.pointer none)) (hsh : w.shape? b = some (106, 2)) (hfz : w.frozen? ⟨b, 0, none⟩ = false) :
    Calls Tryd.prog 104 #[.pointer (some ⟨b, 0, none⟩)] w fun e w' => e = .returned (.tuple #[]) ∧ w' = w.setCell ⟨b, 0, none⟩ (.pointer (some ⟨b, 0, none⟩)) := by
  obtain ⟨j, hj, hjs⟩ := Option.map_eq_some_iff.1 sizeBuilder
  go_enter Tryd.func104, Tryd.ntmps104
  go_wp2
  rw [Lib.run_to_unsafe w ⟨b, 0, none⟩ Tryd.underlying104 Tryd.underlying138 hj (by rw [hjs]; decide) hsh (Nat.zero_lt_succ 1)]
  simp only [Result.andThen]
  rw [Oper.upon_value]
  go_wp2
  rw [run_callFunc_extern Tryd.func118 (by kernel_rfl) (by kernel_rfl) (by kernel_rfl) (e := Extern.AbiNoEscape.same) (by kernel_rfl)]
  rw [Lib.run_noEscape]
  simp only [Result.andThen]
  rw [Oper.upon_value]
  go_wp2
  rw [Lib.run_from_unsafe w ⟨b, 0, none⟩ Tryd.underlying138 Tryd.underlying104 hj hsh (by kernel_rfl)]
  simp only [Result.andThen]
  rw [Oper.upon_value]
  go_wp2
  go_end0
  exact ⟨rfl, rfl⟩

set_option maxHeartbeats 1000000 in
set_option maxRecDepth 100000 in
theorem copyCheck_used (b : Nat) (w : World) (h0 : w.cell? ⟨b, 0, none⟩ = some (.pointer (some ⟨b, 0, none⟩))) :
    Calls Tryd.prog 104 #[.pointer (some ⟨b, 0, none⟩)] w fun e w' => e = .returned (.tuple #[]) ∧ w' = w := by
  obtain ⟨j, hj, _⟩ := Option.map_eq_some_iff.1 sizeBuilder
  go_enter Tryd.func104, Tryd.ntmps104
  go_wp2
  rw [Lib.run_neq_ptr_same w _ Tryd.underlying104 hj]
  go_wp2
  go_end0
  exact ⟨rfl, rfl⟩

theorem copyCheck_any (B b : Nat) (bs : List Value) (w : World) (h : Lib.IsBuilder 106 5 B b bs w) :
    Calls Tryd.prog 104 #[.pointer (some ⟨b, 0, none⟩)] w fun e w' => e = .returned (.tuple #[]) ∧ (Lib.BuilderAt 106 5 B b (.pointer (some ⟨b, 0, none⟩)) bs w' ∧ Below B w w' ∧ Lib.OthersKept 5 (some b) w w') := by
  rcases h with h | h
  · refine (copyCheck_fresh b w h.cell0 h.shape h.frozen0).mono ?_
    rintro e w' ⟨rfl, rfl⟩
    exact ⟨rfl, h.used _, (Below.refl B w).setCell (p := ⟨b, 0, none⟩) h.1 _, (Lib.OthersKept.refl 5 _ w).setCell ⟨b, 0, none⟩ rfl _⟩
  · refine (copyCheck_used b w h.cell0).mono ?_
    rintro e w' ⟨rfl, rfl⟩
    exact ⟨rfl, h, Below.refl B _, Lib.OthersKept.refl 5 _ _⟩

theorem infoByte : (Tryd.prog.info? 5).map (fun i => (i.zero, i.size, i.bytes)) = some (some (.int .u8 0), 1, 1) := by kernel_rfl

set_option maxHeartbeats 2000000 in
set_option maxRecDepth 100000 in
theorem WriteString_cells (B b : Nat) (bs : List Value) (s : ByteArray) (w : World) (h : Lib.IsBuilder 106 5 B b bs w) (hlen : bs.length + s.size ≤ 140737488355328) (hBw : B ≤ w.heap.size) :
    Calls Tryd.prog 81 #[.pointer (some ⟨b, 0, none⟩), .string s] w fun e w' => e = .returned (.tuple #[.int .i64 s.size, .nilIface]) ∧ (Lib.BuilderAt 106 5 B b (.pointer (some ⟨b, 0, none⟩)) (bs ++ Lib.strCells s) w' ∧ Below B w w' ∧ Lib.OthersKept 5 (some b) w w') := by
  obtain ⟨i0, hi, hz0, hz1, hz2⟩ := info_parts infoByte
  go_enter Tryd.func81, Tryd.ntmps81
  go_wp2_with fail
  refine (copyCheck_any B b bs _ h).mono ?_
  rintro e w1 ⟨rfl, h1, hb1, hk1⟩
  obtain ⟨hB, v, hbk, hown, hne⟩ := h1
  have c0 : w1.cell? ⟨b, 0, none⟩ = some (.pointer (some ⟨b, 0, none⟩)) := by rw [Lib.cell_of_heap hbk]; rfl
  have c1 : w1.cell? ⟨b, 1, none⟩ = some v := by rw [Lib.cell_of_heap hbk]; rfl
  go_wp2_with (at_builtin; refine Lib.wpList_append_own_string _ rfl _ _ 90 9 rfl B 5 i0 Tryd.underlying90 Tryd.underlying9 hi hz0 hz1 hz2 _ _ _ rfl hown s rfl ?c3 ?c4 ?c5 ?_)
  case c3 => unfold maxLen; omega
  case c4 => omega
  case c5 => have := hb1.size; omega
  intro v' w2 hown' hgrow _
  have hlt : b < w1.heap.size := by
    rcases Nat.lt_or_ge b w1.heap.size with h' | h'
    · exact h'
    · simp [Array.getElem?_eq_none h'] at hbk
  have hb2 : w2.heap[b]? = some (.cells #[.pointer (some ⟨b, 0, none⟩), v] 106 (0, 0)) := by
    rw [hgrow.block b hlt (fun e => hne e.symm)]
    exact hbk
  have d0 : w2.cell? ⟨b, 0, none⟩ = some (.pointer (some ⟨b, 0, none⟩)) := by rw [Lib.cell_of_heap hb2]; rfl
  have d1 : w2.cell? ⟨b, 1, none⟩ = some v := by rw [Lib.cell_of_heap hb2]; rfl
  have f1 : w2.frozen? ⟨b, 1, none⟩ = false := Lib.frozen_of_heap hb2 1
  obtain ⟨ao, n', cap, rfl⟩ : ∃ ao n' cap, v' = .slice ao n' cap := by
    rcases hown'.2 with ⟨hv, _⟩ | ⟨g, cap, cur, hv, _⟩
    · exact ⟨_, _, _, hv⟩
    · exact ⟨_, _, _, hv⟩
  go_wp2
  go_ret2
  refine ⟨rfl, ?_, ?_, ?_⟩
  · exact Lib.BuilderAt.put (T := 106) (e := 5) hB hb2 (bs' := bs ++ Lib.strCells s) (by simpa [Lib.strCells_length] using hown') (by decide)
  · exact (hb1.grown hgrow (by have := hb1.size; omega) (fun k hk => (hown.lt k hk).1)).setCell (p := ⟨b, 1, none⟩) hB _
  · exact (hk1.grown hgrow (Lib.ownsRowF_kind (World.ownsRowF_of hown))).setCell ⟨b, 1, none⟩ rfl _

theorem WriteString_any (B b : Nat) (l : List UInt8) (s : ByteArray) (w : World) (h : Bld B b l w) (hlen : l.length + s.size ≤ 140737488355328) (hBw : B ≤ w.heap.size) :
    Calls Tryd.prog 81 #[.pointer (some ⟨b, 0, none⟩), .string s] w fun e w' => e = .returned (.tuple #[.int .i64 s.size, .nilIface]) ∧ Bld B b (l ++ s.data.toList) w' ∧ Below B w w' ∧ Lib.OthersKept 5 (some b) w w' :=
  (WriteString_cells B b _ s w h (by rw [Lib.byteCells_length]; exact hlen) hBw).mono fun e w' ⟨h1, h2, h3⟩ => ⟨h1, .inr (by rw [Lib.byteCells_append]; exact h2), h3⟩

theorem Bld.alloc {B b : Nat} {l : List UInt8} {w : World} (h : Bld B b l w) (o : Obj) : Bld B b l (w.alloc o) := by
  have key : ∀ p, Lib.BuilderAt 106 5 B b p (Lib.byteCells l) w → Lib.BuilderAt 106 5 B b p (Lib.byteCells l) (w.alloc o) := by
    rintro p ⟨hB, v, hb, hown, hne⟩
    have hlt : b < w.heap.size := by
      rcases Nat.lt_or_ge b w.heap.size with h' | h'
      · exact h'
      · rw [Array.getElem?_eq_none h'] at hb; cases hb
    exact ⟨hB, v, (Below.heap_alloc w o b hlt).trans hb, hown.alloc o, hne⟩
  rcases h with h | h
  · exact .inl (key _ h)
  · exact .inr (key _ h)
theorem Bld.lt {B b : Nat} {l : List UInt8} {w : World} (h : Bld B b l w) : b < w.heap.size := by
  rcases h with h | h
  · exact h.lt
  · exact h.lt
/-- a block that is no row of bytes, and not the builder, is as it was -/
theorem kept_cell {b k e : Nat} {w w' : World} {c : Array Value} {fz : Nat × Nat} (h : Lib.OthersKept 5 (some b) w w') (hk : w.heap[k]? = some (.cells c e fz)) (he : e ≠ 5) (hb : k ≠ b) :
    w'.heap[k]? = some (.cells c e fz) :=
  h k _ hk (by simpa using hb) (by intro c' fz' hc; injection hc with h1 h2; exact he h2)
end Go.Proofs.YtkdnacniligjjaaDoor

namespace Go.Proofs.YtkdnacniligjjaaDoor
set_option linter.unusedVariables false
set_option linter.unusedSimpArgs false
open Go.RowKit Go.Shelf

theorem byteCells_snoc (l : List UInt8) (c : UInt8) : Lib.byteCells (l ++ [c]) = Lib.byteCells l ++ [.int .u8 (c.toNat : Int)] := by simp [Lib.byteCells]

set_option maxHeartbeats 1000000 in
set_option maxRecDepth 100000 in
theorem WriteByte_any (B b : Nat) (l : List UInt8) (c : UInt8) (w : World) (h : Bld B b l w) (hlen : l.length ≤ 100000) (hBw : B ≤ w.heap.size) :
    Calls Tryd.prog 78 #[.pointer (some ⟨b, 0, none⟩), .int .u8 (c.toNat : Int)] w fun e w' => e = .returned .nilIface ∧ Bld B b (l ++ [c]) w' ∧ Below B w w' ∧ Lib.OthersKept 5 (some b) w w' := by
  obtain ⟨i0, hi, hz0, hz1, hz2⟩ := info_parts infoByte
  have hbl := Lib.byteCells_length l
  go_enter Tryd.func78, Tryd.ntmps78
  go_wp2_with fail
  refine (copyCheck_any B b _ _ h).mono ?_
  rintro e w1 ⟨rfl, h1, hb1, hk1⟩
  obtain ⟨hB, v, hbk, hown, hne⟩ := h1
  have c0 : w1.cell? ⟨b, 0, none⟩ = some (.pointer (some ⟨b, 0, none⟩)) := by rw [Lib.cell_of_heap hbk]; rfl
  have c1 : w1.cell? ⟨b, 1, none⟩ = some v := by rw [Lib.cell_of_heap hbk]; rfl
  have hs1 := hb1.size
  have hlt : b < w1.heap.size := by
    rcases Nat.lt_or_ge b w1.heap.size with h' | h'
    · exact h'
    · simp [Array.getElem?_eq_none h'] at hbk
  go_wp2_with (at_builtin; refine wpList_append_own _ rfl _ _ 90 rfl B 5 i0 _ 1 1 Tryd.underlying90 hi hz0 hz1 hz2 rfl (by decide) _ _ _ rfl (hown.alloc _) ⟨w1.heap.size, 0, none⟩ 1 1 [.int .u8 (c.toNat : Int)] rfl rfl ?c1 ?c2 ?c3 ?c4 ?c5 ?_)
  case c1 => exact World.news_of_block (heap_alloc_new w1 _)
  case c2 => simp [Value.oneCell']
  case c3 => unfold maxLen; omega
  case c4 => omega
  case c5 => simp; omega
  intro v' w2 hown' hgrow _
  have hb2 : w2.heap[b]? = some (.cells #[.pointer (some ⟨b, 0, none⟩), v] 106 (0, 0)) := by
    rw [hgrow.block b (by simp; omega) (fun e => hne e.symm)]
    exact (Below.heap_alloc w1 _ b hlt).trans hbk
  have d0 : w2.cell? ⟨b, 0, none⟩ = some (.pointer (some ⟨b, 0, none⟩)) := by rw [Lib.cell_of_heap hb2]; rfl
  have d1 : w2.cell? ⟨b, 1, none⟩ = some v := by rw [Lib.cell_of_heap hb2]; rfl
  have f1 : w2.frozen? ⟨b, 1, none⟩ = false := Lib.frozen_of_heap hb2 1
  obtain ⟨ao, n', cap, rfl⟩ : ∃ ao n' cap, v' = .slice ao n' cap := by
    rcases hown'.2 with ⟨hv, _⟩ | ⟨g, cap, cur, hv, _⟩
    · exact ⟨_, _, _, hv⟩
    · exact ⟨_, _, _, hv⟩
  go_wp2
  go_ret
  refine ⟨rfl, ?_, ?_, ?_⟩
  · refine .inr ?_
    rw [byteCells_snoc]
    exact Lib.BuilderAt.put (T := 106) (e := 5) hB hb2 (bs' := Lib.byteCells l ++ [.int .u8 (c.toNat : Int)]) (by simpa [Lib.byteCells_length] using hown') (by decide)
  · exact ((hb1.alloc (by omega) _).grown hgrow (by simp; omega) (fun k hk => (hown.lt k hk).1)).setCell (p := ⟨b, 1, none⟩) hB _
  · exact ((hk1.alloc _).grown hgrow (Lib.ownsRowF_kind (World.ownsRowF_of (hown.alloc _)))).setCell ⟨b, 1, none⟩ rfl _

set_option maxRecDepth 100000 in
theorem Len_any (B b : Nat) (l : List UInt8) (w : World) (h : Bld B b l w) :
    Calls Tryd.prog 82 #[.pointer (some ⟨b, 0, none⟩)] w fun e w' => e = .returned (.int .i64 (l.length : Int)) ∧ w' = w := by
  have hv : ∃ ao c, w.cell? ⟨b, 1, none⟩ = some (.slice ao l.length c) := by
    have key : ∀ p, Lib.BuilderAt 106 5 B b p (Lib.byteCells l) w → ∃ ao c, w.cell? ⟨b, 1, none⟩ = some (.slice ao l.length c) := by
      rintro p ⟨hB, v, hbk, hown, hne⟩
      have c1 : w.cell? ⟨b, 1, none⟩ = some v := by rw [Lib.cell_of_heap hbk]; rfl
      have hl := Lib.byteCells_length l
      rcases hown.2 with ⟨h1, h2⟩ | ⟨g, cap, cur, h1, _⟩
      · exact ⟨none, 0, by rw [c1, h1, ← hl, h2]⟩
      · exact ⟨_, _, by rw [c1, h1, hl]⟩
    rcases h with h | h
    · exact key _ h
    · exact key _ h
  obtain ⟨ao, c, hv⟩ := hv
  go_enter Tryd.func82, Tryd.ntmps82
  go_wp2_with fail
  go_ret
  exact ⟨rfl, rfl⟩
end Go.Proofs.YtkdnacniligjjaaDoor

namespace Go.Proofs.YtkdnacniligjjaaDoor
set_option linter.unusedVariables false
set_option linter.unusedSimpArgs false
open Go.RowKit

/-- what Text returns -/
def textR (l : List Tok) : ByteArray × Int := if 20000 < l.length then (ByteArray.empty, 3) else if 20000 < (catL l).length then (ByteArray.empty, 3) else if lexL (mkB (catL l)) = l then (mkB (catL l), 0) else (ByteArray.empty, 4)
theorem ret_si {p : ByteArray × Int} {a : ByteArray} {b : Int} (h : p = (a, b)) : Ending.returned (.tuple #[.string a, .int .i64 b]) = .returned (.tuple #[.string p.1, .int .i64 p.2]) := by rw [h]
theorem catL_take {l : List Tok} {k : Nat} (h : k < l.length) : catL (l.take (k + 1)) = catL (l.take k) ++ byt l[k].2 := by
  rw [List.take_succ_eq_append_getElem h, catL_append]; simp [catL]
theorem catL_take_le (l : List Tok) (k : Nat) : (catL (l.take k)).length ≤ (catL l).length := by
  have := congrArg List.length (catL_append (l.take k) (l.drop k))
  rw [List.take_append_drop, List.length_append] at this
  omega
theorem bld_drewN {B b : Nat} {l : List UInt8} {w : World} (h : Bld B b l w) (n : Nat) : Bld B b l (w.drewN n) := h
theorem bld_drew {B b : Nat} {l : List UInt8} {w : World} (h : Bld B b l w) : Bld B b l w.drew := h

set_option maxRecDepth 100000 in
set_option maxHeartbeats 1000000 in
theorem Text_any (c : Nat) (A : Option Addr) (l : List Tok) (w : World) (hl : l.length ≤ 60000) (hsz : ∀ p ∈ l, p.2.size ≤ 60000) (hT : Tabs w) (hE : TksV w A l) :
    Calls Tryd.prog 83 #[.slice A l.length c] w fun e w' => e = .returned (.tuple #[.string (textR l).1, .int .i64 (textR l).2]) ∧ Below w.heap.size w w' := by
  by_cases h0 : 20000 < l.length
  · have hr : Hid (textR l = (ByteArray.empty, 3)) := Lib.hid (by unfold textR; rw [if_pos h0])
    have q : decide ((20000 : Int) < (l.length : Int)) = true := by simp; omega
    clear h0
    go_enter Tryd.func83, Tryd.ntmps83
    go_wp2_with fail
    go_ret2
    exact ⟨ret_si hr.out, Below.refl _ _⟩
  · have q : decide ((20000 : Int) < (l.length : Int)) = false := by simp; omega
    have hbl : Bld w.heap.size w.heap.size [] (w.alloc (.cells #[.pointer none, .slice none 0 0] 106)) := by
      have := Lib.fresh_isBuilder 106 5 w
      simpa [Bld, Lib.byteCells] using this
    have hw0 : Below w.heap.size w (w.alloc (.cells #[.pointer none, .slice none 0 0] 106)) := (Below.refl _ _).alloc (Nat.le_refl _) _
    have HBL := Lib.hid hbl
    have HW0 := Lib.hid hw0
    have HT := Lib.hid hT
    have HE := Lib.hid hE
    have HS := Lib.hid hsz
    clear hbl hw0 hT hE hsz
    go_enter Tryd.func83, Tryd.ntmps83
    go_wp2_with fail
    go_loopw [6, 13] (fun _ i wr => ∃ (k : Nat) (pre : List UInt8), k ≤ l.length ∧ i = .int .i64 k ∧ catL (l.take k) = pre ∧ pre.length ≤ 20000 ∧ Bld w.heap.size w.heap.size pre wr ∧ Below w.heap.size w wr) (fun _ i _ => l.length - (intOf i).toNat)
    case atStart => exact ⟨0, [], Nat.zero_le _, rfl, rfl, by simp, HBL.out, HW0.out⟩
    case round =>
      obtain ⟨k, pre, hk, rfl, he, hp, hb, hB⟩ := hrel
      have hs1 := hB.size
      by_cases hlt : k < l.length
      · obtain ⟨b, off, rfl, hbb, m1, m2⟩ := (HE.out.below hB).get hlt
        have hxs := HS.out l[k] (List.getElem_mem hlt)
        have hct := catL_take hlt
        have htl := catL_take_le l (k + 1)
        rw [hct, he, List.length_append, byt_length] at htl
        rw [he] at hct
        obtain ⟨⟨kd, x⟩, hx⟩ : ∃ p, p = l[k] := ⟨_, rfl⟩
        rw [← hx] at m1 m2 hxs hct htl
        simp only at m1 m2 hxs hct htl
        have hk1 : (0 : Int) ≤ (k : Int) := by omega
        have hk2 : (k : Int) < (l.length : Int) := by omega
        have Hct := Lib.hid hct
        have hba := hb.alloc (.cells #[.int .i64 kd, .string x] 24)
        have hBa := hB.alloc hs1 (.cells #[.int .i64 kd, .string x] 24)
        have hna : (wr.alloc (.cells #[.int .i64 kd, .string x] 24)).heap[wr.heap.size]? = some (.cells #[.int .i64 kd, .string x] 24 (0, 0)) := heap_alloc_new wr _
        have sp : IntKind.i64.wrap (20000 - (pre.length : Int)) = 20000 - (pre.length : Int) := IntWalk.i64_in _ (by omega)
        obtain ⟨w2, hw2⟩ : ∃ w2, w2 = wr.alloc (.cells #[.int .i64 kd, .string x] 24) := ⟨_, rfl⟩
        rw [← hw2] at hba hBa hna
        have hg2 : wr.heap.size < w2.heap.size := by rw [hw2]; simp
        have a1 : w2.cell? ⟨wr.heap.size, 1, none⟩ = some (.string x) := Lib.cell_of_heap hna 1
        have HW2 := Lib.hid hw2
        have HNA := Lib.hid hna
        have HBA := Lib.hid hba
        clear hx hct hw2 hna
        by_cases hbig : 20000 < pre.length + x.size
        · have q2 : decide (20000 - (pre.length : Int) < (x.size : Int)) = true := by simp; omega
          have hr : Hid (textR l = (ByteArray.empty, 3)) := Lib.hid (by unfold textR; rw [if_neg h0, if_pos (by omega)])
          clear hba he htl
          go_wp2_with fail
          rw [← HW2.out]
          go_region_held3 (fun w' => w'.cell? ⟨wr.heap.size, 1, none⟩ = some (.string x)) (go_keep) ((first
            | (go_simp
               go_at_call 82
               refine (Len_any w.heap.size w.heap.size pre _ (by first | exact HBA.out | exact bld_drew HBA.out | exact bld_drewN HBA.out _)).mono ?_
               rintro e wL ⟨rfl, rfl⟩)))
          all_goals
            go_wp2_with fail
            go_ret2
            refine ⟨ret_si hr.out, ?_⟩
            first
            | exact hBa
            | exact hBa.drew
            | exact below_drewT hBa _
        · have q2 : decide (20000 - (pre.length : Int) < (x.size : Int)) = false := by simp; omega
          clear hba he htl
          go_wp2_with fail
          rw [← HW2.out]
          go_region_held3 (fun w' => w'.cell? ⟨wr.heap.size, 1, none⟩ = some (.string x)) (go_keep) ((first
            | (go_simp
               go_at_call 82
               refine (Len_any w.heap.size w.heap.size pre _ (by first | exact HBA.out | exact bld_drew HBA.out | exact bld_drewN HBA.out _)).mono ?_
               rintro e wL ⟨rfl, rfl⟩)))
          all_goals
            go_wp2_with fail
            refine (WriteString_any w.heap.size w.heap.size pre x _ (by first | exact HBA.out | exact bld_drew HBA.out | exact bld_drewN HBA.out _) (by omega) (by first | exact hBa.size | exact hBa.drew.size | exact (below_drewT hBa _).size)).mono ?_
            rintro e w3 ⟨rfl, hb3, hB3, _⟩
            have hB4 : Below w.heap.size w w3 := by
              first
              | exact hBa.trans hB3
              | exact hBa.drew.trans hB3
              | exact (below_drewT hBa _).trans hB3
            go_wp2_with fail
            refine ⟨⟨k + 1, pre ++ byt x, by omega, by go_num, Hct.out, ?_, hb3, hB4⟩, by simp [intOf]; omega⟩
            rw [List.length_append, byt_length]; omega
      · have hke : k = l.length := by omega
        subst hke
        rw [List.take_length] at he
        subst he
        have hq3 : decide ((l.length : Int) < (l.length : Int)) = false := by simp
        go_wp2_with fail
        refine (BString_any _ _ _ _ hb hs1).mono ?_
        rintro e w3 ⟨rfl, hB3⟩
        have hB4 := hB.trans hB3
        have hlx := lexesTo_any (mkB (catL l)) c A l w3 (HT.out.below hB4) (HE.out.below hB4)
        have hms := mkB_size (catL l)
        by_cases hq : lexL (mkB (catL l)) = l
        · have hr : Hid (textR l = (mkB (catL l), 0)) := Lib.hid (by unfold textR; rw [if_neg h0, if_neg (by omega), if_pos hq])
          rw [show lexesB (mkB (catL l)) l = true by unfold lexesB; rw [decide_eq_true hq, decide_eq_true (by omega)]; rfl] at hlx
          have Hlx := Lib.hid hlx
          clear hlx hq hb
          go_wp2_with fail
          refine Hlx.out.mono ?_
          rintro e w5 ⟨rfl, hb5⟩
          go_wp2_with fail
          go_ret2
          exact ⟨ret_si hr.out, hB4.trans (hb5.mono hB4.size)⟩
        · have hr : Hid (textR l = (ByteArray.empty, 4)) := Lib.hid (by unfold textR; rw [if_neg h0, if_neg (by omega), if_neg hq])
          rw [show lexesB (mkB (catL l)) l = false by unfold lexesB; rw [decide_eq_false hq, Bool.and_false]] at hlx
          have Hlx := Lib.hid hlx
          clear hlx hq hb
          go_wp2_with fail
          refine Hlx.out.mono ?_
          rintro e w5 ⟨rfl, hb5⟩
          go_wp2_with fail
          go_ret2
          exact ⟨ret_si hr.out, hB4.trans (hb5.mono hB4.size)⟩
end Go.Proofs.YtkdnacniligjjaaDoor
