/-
  Plain mathematics of edits, no Go: what the rope package's functions compute, as functions on lists of edits.
-/
import Derived.IntWalk
namespace Go.Proofs.YtkaceghngjpemaaDoor

structure Ed where
  f : Int
  t : Int
  s : ByteArray
  deriving DecidableEq

def isSpanB (a b n : Int) : Bool := decide (0 ≤ a ∧ a ≤ b ∧ b ≤ n)
def rising (n : Int) : Int → List Ed → Bool
  | _, [] => true
  | last, e :: l => decide (last ≤ e.f) && isSpanB e.f e.t n && rising n e.t l
def growE (e : Ed) : Int := (e.s.size : Int) - (e.t - e.f)
def sumG : List Ed → Int
  | [] => 0
  | e :: l => growE e + sumG l
/-- Check of a string of so many bytes. -/
def checkLen (n : Int) (l : List Ed) : Int :=
  if 100 < l.length then 3 else if rising n 0 l = false then 2 else if 20000 < n + sumG l then 7 else 0
def checkE (n : Int) (l : List Ed) : Int := if 20000 < n then 3 else checkLen n l

/-- Lists that are small enough that no sum over them passes an int. -/
def Small (l : List Ed) : Prop := l.length ≤ 1000 ∧ ∀ e ∈ l, e.s.size ≤ 60000

theorem Small.tail {e : Ed} {l : List Ed} (h : Small (e :: l)) : Small l :=
  ⟨by have := h.1; simp at this; omega, fun x hx => h.2 x (by simp [hx])⟩
theorem Small.drop {l : List Ed} (h : Small l) (k : Nat) : Small (l.drop k) :=
  ⟨by have := h.1; simp; omega, fun x hx => h.2 x (List.mem_of_mem_drop hx)⟩
theorem Small.take {l : List Ed} (h : Small l) (k : Nat) : Small (l.take k) :=
  ⟨by have := h.1; simp; omega, fun x hx => h.2 x (List.mem_of_mem_take hx)⟩
theorem Small.get {l : List Ed} (h : Small l) {k : Nat} (hk : k < l.length) : l[k].s.size ≤ 60000 := h.2 _ (List.getElem_mem hk)

theorem rising_cons {n last : Int} {e : Ed} {l : List Ed} : rising n last (e :: l) = true ↔ last ≤ e.f ∧ 0 ≤ e.f ∧ e.f ≤ e.t ∧ e.t ≤ n ∧ rising n e.t l = true := by
  simp only [rising, isSpanB, Bool.and_eq_true, decide_eq_true_eq]
  constructor
  · rintro ⟨⟨h1, h2, h3, h4⟩, hr⟩; exact ⟨h1, h2, h3, h4, hr⟩
  · rintro ⟨h1, h2, h3, h4, hr⟩; exact ⟨⟨h1, h2, h3, h4⟩, hr⟩

/-- what stands at place k of a rising list -/
theorem rising_get {n : Int} : ∀ {l : List Ed} {last : Int}, rising n last l = true → ∀ {k : Nat} (hk : k < l.length), last ≤ l[k].f ∧ 0 ≤ l[k].f ∧ l[k].f ≤ l[k].t ∧ l[k].t ≤ n
  | [], _, _, k, hk => by simp at hk
  | e :: l, last, h, k, hk => by
    rw [rising_cons] at h
    match k with
    | 0 => simp; omega
    | k + 1 =>
      have := rising_get h.2.2.2.2 (k := k) (by simpa using hk)
      simp at this ⊢
      omega
theorem rising_next {n : Int} : ∀ {l : List Ed} {last : Int}, rising n last l = true → ∀ {k : Nat} (hk : k < l.length) (hk1 : k + 1 < l.length), l[k].t ≤ l[k + 1].f
  | [], _, _, k, hk, _ => by simp at hk
  | e :: l, last, h, k, hk, hk1 => by
    rw [rising_cons] at h
    match k with
    | 0 => have := rising_get h.2.2.2.2 (k := 0) (by simpa using hk1); simp; omega
    | k + 1 => simpa using rising_next h.2.2.2.2 (k := k) (by simpa using hk) (by simpa using hk1)
theorem rising_drop {n : Int} : ∀ {l : List Ed} {last : Int} (_ : rising n last l = true) {k : Nat} (hk : k < l.length), rising n l[k].t (l.drop (k + 1)) = true
  | [], _, _, k, hk => by simp at hk
  | e :: l, last, h, k, hk => by
    rw [rising_cons] at h
    match k with
    | 0 => simpa using h.2.2.2.2
    | k + 1 => simpa using rising_drop h.2.2.2.2 (k := k) (by simpa using hk)

theorem sumG_take_succ {l : List Ed} {k : Nat} (hk : k < l.length) : sumG (l.take (k + 1)) = sumG (l.take k) + growE l[k] := by
  induction l generalizing k with
  | nil => simp at hk
  | cons e l ih =>
    match k with
    | 0 => simp [sumG]
    | k + 1 => simp only [List.take_succ_cons, sumG]; rw [ih (by simpa using hk)]; simp; omega
theorem sumG_take_all (l : List Ed) : sumG (l.take l.length) = sumG l := by rw [List.take_length]
/-- bounds of the partial sums, of a list within so many bytes -/
theorem sumG_bd {n : Int} (hn : n ≤ 60000) : ∀ {l : List Ed} {last : Int}, 0 ≤ last → Small l → rising n last l = true → -60000 * (l.length : Int) ≤ sumG l ∧ sumG l ≤ 60000 * (l.length : Int)
  | [], _, _, _, _ => by simp [sumG]
  | e :: l, last, h0, hs, h => by
    rw [rising_cons] at h
    have ih := sumG_bd hn (by omega) hs.tail h.2.2.2.2
    have h1 := hs.2 e (by simp)
    simp only [sumG, growE, List.length_cons]
    omega
theorem rising_take {n : Int} : ∀ {l : List Ed} {last : Int} (_ : rising n last l = true) (k : Nat), rising n last (l.take k) = true
  | [], _, _, k => by simp [rising]
  | e :: l, last, h, 0 => by simp [rising]
  | e :: l, last, h, k + 1 => by
    rw [rising_cons] at h
    rw [List.take_succ_cons, rising_cons]
    exact ⟨h.1, h.2.1, h.2.2.1, h.2.2.2.1, rising_take h.2.2.2.2 k⟩
theorem sumG_take_bd {n : Int} (hn : n ≤ 60000) {l : List Ed} {last : Int} (h0 : 0 ≤ last) (hs : Small l) (h : rising n last l = true) (k : Nat) : -60000000 ≤ sumG (l.take k) ∧ sumG (l.take k) ≤ 60000000 := by
  have := sumG_bd hn h0 (hs.take k) (rising_take h k)
  have h1 := (hs.take k).1
  omega

def isBef (e : Ed) (o : Int) (after : Bool) : Bool := if e.f = o ∧ e.t = o then after else decide (e.t ≤ o)
/-- rope.Move, of edits in rising order -/
def moveE (o : Int) (after : Bool) : Int → List Ed → Int
  | sh, [] => o + sh
  | sh, e :: l => if e.f < o ∧ o < e.t then e.f + sh + e.s.size else if isBef e o after = true then moveE o after (sh + growE e) l else o + sh
def moveErr (l : List Ed) (o : Int) : Int := if 100 < l.length then 3 else if rising 20000 0 l = false ∨ isSpanB 0 o 20000 = false then 2 else 0
def befR (e : Ed) (o : Int) (after : Bool) : Bool := decide (e.t < o) || (decide (e.t = o) && decide (e.f < o)) || (decide (e.f = o) && decide (e.t = o) && after)
/-- the specification's Move -/
def moveR (o : Int) (after : Bool) : Int → List Ed → Int
  | sh, [] => o + sh
  | sh, e :: l => if e.f < o ∧ o < e.t then e.f + sh + e.s.size else if befR e o after = true then moveR o after (sh + growE e) l else moveR o after sh l
theorem moveR_past {n o : Int} {after : Bool} : ∀ {l : List Ed} {last sh : Int}, rising n last l = true → (o < last ∨ (o = last ∧ after = false)) → moveR o after sh l = o + sh
  | [], _, _, _, _ => rfl
  | e :: l, last, sh, h, hl => by
    rw [rising_cons] at h
    have hb : befR e o after = false := by
      unfold befR
      rcases hl with hl | ⟨hl, ha⟩
      · simp; omega
      · simp [ha]; omega
    simp only [moveR, hb]
    rw [if_neg (by omega)]
    refine moveR_past h.2.2.2.2 ?_
    rcases hl with hl | ⟨hl, ha⟩
    · exact .inl (by omega)
    · by_cases hh : o < e.t
      · exact .inl hh
      · exact .inr ⟨by omega, ha⟩
theorem move_same {n o : Int} {after : Bool} : ∀ {l : List Ed} {last sh : Int}, rising n last l = true → moveE o after sh l = moveR o after sh l
  | [], _, _, _ => rfl
  | e :: l, last, sh, h => by
    rw [rising_cons] at h
    simp only [moveE, moveR]
    by_cases h1 : e.f < o ∧ o < e.t
    · rw [if_pos h1, if_pos h1]
    · rw [if_neg h1, if_neg h1]
      have hbb : isBef e o after = befR e o after := by
        unfold isBef befR
        by_cases h2 : e.f = o ∧ e.t = o
        · obtain ⟨rfl, h3⟩ := h2
          simp [h3]
        · rw [if_neg h2, Bool.eq_iff_iff]; simp; omega
      rw [hbb]
      by_cases hb : befR e o after = true
      · rw [if_pos hb, if_pos hb]; exact move_same h.2.2.2.2
      · rw [if_neg hb, if_neg hb]
        refine (moveR_past h.2.2.2.2 ?_).symm
        have hb' : befR e o after = false := Bool.eq_false_iff.2 hb
        by_cases hh : o < e.t
        · exact .inl hh
        · refine .inr ?_
          simp only [befR, Bool.or_eq_false_iff, Bool.and_eq_false_iff, decide_eq_false_iff_not] at hb'
          obtain ⟨⟨b1, b2⟩, b3⟩ := hb'
          have e1 : e.t = o := by omega
          have e2 : e.f = o := by rcases b2 with b2 | b2 <;> omega
          refine ⟨e1.symm, ?_⟩
          rcases b3 with (b3 | b3) | b3
          · exact absurd e2 b3
          · exact absurd e1 b3
          · exact b3

/-! ### The string after edits -/
def sub (t : ByteArray) (a b : Nat) : List UInt8 := (t.extract a b).data.toList
/-- the bytes from a place on up to another, after edits -/
def editedL (t : ByteArray) (to : Nat) : Nat → List Ed → List UInt8
  | a, [] => sub t a to
  | a, e :: l => sub t a e.f.toNat ++ (e.s.data.toList ++ editedL t to e.t.toNat l)
def mkB (l : List UInt8) : ByteArray := ⟨l.toArray⟩
/-- the string after edits -/
def applyB (t : ByteArray) (l : List Ed) : ByteArray := mkB (editedL t t.size 0 l)

theorem sub_eq (t : ByteArray) (a b : Nat) : sub t a b = (t.data.toList.drop a).take (b - a) := by
  unfold sub
  rw [ByteArray.data_extract, Array.toList_extract]
theorem sub_length (t : ByteArray) (a b : Nat) : (sub t a b).length = min b t.size - a := by
  unfold sub; rw [Array.length_toList]; show (t.extract a b).size = _; rw [ByteArray.size_extract]
theorem sub_le (t : ByteArray) (a b : Nat) : (sub t a b).length ≤ t.size := by rw [sub_length]; omega
theorem mkB_size (l : List UInt8) : (mkB l).size = l.length := by show l.toArray.size = l.length; simp
theorem mkB_inj {a b : List UInt8} (h : mkB a = mkB b) : a = b := by
  have := congrArg (fun x : ByteArray => x.data.toList) h
  simpa [mkB] using this
theorem mkB_toList (l : List UInt8) : (mkB l).data.toList = l := by simp [mkB]
theorem mkB_of (t : ByteArray) : mkB t.data.toList = t := by cases t; simp [mkB]
theorem size_toList (t : ByteArray) : t.data.toList.length = t.size := Array.length_toList
end Go.Proofs.YtkaceghngjpemaaDoor
