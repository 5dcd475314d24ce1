/-
  Contracts of Short, Cut and Same.
-/
import Derived.Test.YtmdgclcakogggaaApp2
import Derived.Deep.RegionHeld3
import Derived.Deep.AppendLies
namespace Go.Proofs.Ytmdgclcakogggaa
open Go.RowKit

def shortB (t : ByteArray) : ByteArray := t.extract 0 (min t.size 20001)
theorem Short_any (t : ByteArray) (w : World) (ht : t.size ≤ maxLen) :
    Calls Try.prog 6 #[.string t] w fun e w' => e = .returned (.string (shortB t)) ∧ w = w' := by
  unfold maxLen at ht
  go_enter Try.func6, Try.ntmps6
  go_wp2
  go_ret
  refine ⟨ret_str ?_, rfl⟩
  unfold shortB
  rw [show (min (t.size : Int) 20001).toNat = min t.size 20001 from by omega]

theorem infoEdit : (Try.prog.info? 35).map (fun i => (i.zero, i.size, i.bytes)) = some (some (.agg #[.int .i64 0, .int .i64 0, .string ByteArray.empty]), 3, 32) := by kernel_rfl

theorem heap_alloc2 (w : World) (o o2 : Obj) : ((w.alloc o).alloc o2).drew.heap[w.heap.size + 1]? = some o2 := by
  have h := heap_alloc_new (w.alloc o) o2
  have hs : (w.alloc o).heap.size = w.heap.size + 1 := by simp
  rw [hs] at h
  exact h

def cutE (m : Nat) (e : Ed) : Ed := ⟨e.f, e.t, e.s.extract 0 (min e.s.size m)⟩
def cutL (m : Nat) (l : List Ed) : List Ed := (l.take 102).map (cutE m)

set_option maxRecDepth 100000 in
set_option maxHeartbeats 1000000 in
theorem Cut_own (m : Nat) (c : Nat) (A : Option Addr) (l : List Ed) (w : World) (hl : l.length ≤ maxLen) (hs : ∀ e ∈ l, e.s.size ≤ maxLen) (hE : EdsV w A l) :
    Calls Try.prog 7 #[.slice A l.length c, .int .i64 m] w fun e w' => ∃ v, e = .returned v ∧ w'.ownsRow w.heap.size 35 3 v (cutL m l).length (edsCells (cutL m l)) ∧ Below w.heap.size w w' := by
  unfold maxLen at hl hs
  obtain ⟨i0, hi0, hz0, hz1, hz2⟩ := info_parts infoEdit
  go_enter Try.func7, Try.ntmps7
  go_wp2_with fail
  go_loopw [5, 6] (fun v i wr => ∃ (k : Nat), k ≤ l.length ∧ k ≤ 102 ∧ i = .int .i64 k ∧ wr.ownsRow w.heap.size 35 3 v k (edsCells ((l.take k).map (cutE m))) ∧ Below w.heap.size w wr) (fun _ i _ => l.length - (intOf i).toNat)
  case atStart => exact ⟨0, by omega, by omega, rfl, ⟨rfl, .inl ⟨rfl, rfl⟩⟩, Below.refl _ _⟩
  case round =>
    obtain ⟨k, hk, hk2, rfl, hown, hB⟩ := hrel
    by_cases hlt : k < l.length
    · by_cases hlt2 : k < 102
      · obtain ⟨b, off, rfl, hb, c1, c2, c3⟩ := (hE.below hB).get hlt
        have hsz := hs _ (List.getElem_mem hlt)
        have hkl : (cutL m l).length = min 102 l.length := by simp [cutL]
        clear hE
        have hx : ∃ h : Nat, h ≤ l[k].s.size ∧ min (l[k].s.size : Int) (m : Int) = (h : Int) ∧ cutE m l[k] = ⟨l[k].f, l[k].t, l[k].s.extract 0 h⟩ :=
          ⟨min l[k].s.size m, by omega, by omega, rfl⟩
        obtain ⟨h, hh, hmin, hcut⟩ := hx
        have Hcut := Lib.hid hcut
        clear hcut
        have hh' : (h : Int) ≤ (l[k].s.size : Int) := by omega
        have hh0 : (0 : Int) ≤ (h : Int) := by omega
        go_wp2_with fail
        have hne : u5.ownBlock ≠ some wr.heap.size := fun h => by have := (hown.lt _ h).2; omega
        have hb1 := hB.size
        go_region_held3 (fun w' => w'.cell? ⟨wr.heap.size, 0, none⟩ = some (.int .i64 l[k].f) ∧ w'.cell? ⟨wr.heap.size, 1, none⟩ = some (.int .i64 l[k].t) ∧ w'.cell? ⟨wr.heap.size, 2, none⟩ = some (.string l[k].s))
          (first
            | go_keep
            | (go_split_ands
               refine ⟨?_, ?_, ?_⟩
               · (rw [hgrow.cell_far _ (by simp; try omega) (Ne.symm hne)]; assumption)
               · (rw [hgrow.cell_far _ (by simp; try omega) (Ne.symm hne)]; assumption)
               · (rw [hgrow.cell_far _ (by simp; try omega) (Ne.symm hne)]; assumption)))
          ((refine step_append_lies _ (by rfl) _ _ _ (by rfl) w.heap.size 35 i0 _ 3 32 Try.underlying22 hi0 hz0 hz1 hz2 rfl (by omega) u5 k (edsCells ((l.take k).map (cutE m))) (by rfl) (((hown.alloc _).alloc _).drew)
              ⟨wr.heap.size + 1, 0, none⟩ 1 1 (edCells ⟨l[k].f, l[k].t, l[k].s.extract 0 h⟩) (by rfl) (by rfl) (World.news_of_block (cs := #[.int .i64 l[k].f, .int .i64 l[k].t, .string (l[k].s.extract 0 h)]) (t := 35) (fr := (0, 0)) (heap_alloc2 wr _ _)) (by simp [edCells, Value.oneCell'])
              (by omega) (by unfold maxLen; omega) (by omega) (by simp; omega) (wr.heap.size + 2) (by simp) ?_; intro gg cap w1 hown1 hgrow hat hlt9))
        go_wp2_with fail
        refine ⟨⟨k + 1, by omega, by omega, by go_num, ?_, ?_⟩, by simp [intOf]; omega⟩
        · have hx : edsCells ((l.take (k + 1)).map (cutE m)) = edsCells ((l.take k).map (cutE m)) ++ edCells ⟨l[k].f, l[k].t, l[k].s.extract 0 h⟩ := by
            rw [List.take_succ_eq_append_getElem hlt, List.map_append, List.map_cons, List.map_nil, edsCells_append, Hcut.out]
          rw [hx]
          exact hown1
        · exact (((hB.alloc hB.size _).alloc (by simp; omega) _).drew).grown hgrow (by simp; omega) (fun g hg => (hown.lt g hg).1)
      · have hk3 : k = 102 := by omega
        subst hk3
        clear hE
        go_wp2_with fail
        go_ret
        refine ⟨_, rfl, ?_, hB⟩
        have : (cutL m l).length = 102 := by simp [cutL]; omega
        rw [this]
        exact hown
    · have hk3 : k = l.length := by omega
      subst hk3
      clear hE
      go_wp2_with fail
      go_ret
      refine ⟨_, rfl, ?_, hB⟩
      have h1 : cutL m l = (l.take l.length).map (cutE m) := by unfold cutL; rw [List.take_of_length_le (by omega), List.take_length]
      rw [h1]
      simpa using hown

theorem Cut_any (m : Nat) (c : Nat) (A : Option Addr) (l : List Ed) (w : World) (hl : l.length ≤ maxLen) (hs : ∀ e ∈ l, e.s.size ≤ maxLen) (hE : EdsV w A l) :
    Calls Try.prog 7 #[.slice A l.length c, .int .i64 m] w fun e w' => ∃ A' c', e = .returned (.slice A' (cutL m l).length c') ∧ EdsV w' A' (cutL m l) ∧ Below w.heap.size w w' :=
  (Cut_own m c A l w hl hs hE).mono fun e w' ⟨v, he, ho, hb⟩ => by
    obtain ⟨A', c', rfl, h1, _⟩ := EdsV.of_own ho
    exact ⟨A', c', he, h1, hb⟩
theorem cutL_small {m : Nat} (hm : m ≤ 60000) (l : List Ed) : Small (cutL m l) := by
  constructor
  · simp [cutL]; omega
  · intro e he
    simp only [cutL, List.mem_map] at he
    obtain ⟨x, _, rfl⟩ := he
    simp only [cutE]
    rw [ByteArray.size_extract]
    omega
end Go.Proofs.Ytmdgclcakogggaa
