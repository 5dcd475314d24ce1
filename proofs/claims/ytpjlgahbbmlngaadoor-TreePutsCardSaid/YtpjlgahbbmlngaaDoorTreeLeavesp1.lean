/-
  A range over a function whose iterator keeps lists of its own in memory: the iterator's contract names the blocks that are its own; the statement's law.; Plain mathematics of edits, no Go: what the rope package's functions compute, as functions on lists of edits.; More plain mathematics: what Check's OK says; Apply's result.; Plain mathematics of Diff: common beginnings and ends.
-/
import Derived.RangeFuncNested
import Derived.IntWalk
namespace Go.Proofs.YtpjlgahbbmlngaaDoor
set_option linter.unusedVariables false
open Go Go.RowKit

/-- nothing has turned but blocks of O -/
structure Turns (O : Nat → Prop) (W W' : World) : Prop where
  os : W'.os = W.os
  tape : W'.tape = W.tape
  output : W'.output = W.output
  size : W.heap.size ≤ W'.heap.size
  block : ∀ k, k < W.heap.size → ¬ O k → W'.heap[k]? = W.heap[k]?
/-- what lay below n₀, and the blocks of O, lie as they lay -/
structure Keep (n₀ : Nat) (O : Nat → Prop) (W W' : World) : Prop where
  below : Below n₀ W W'
  own : ∀ k, O k → W'.heap[k]? = W.heap[k]?
/-- a fact that others' blocks have no part in -/
def AbidesT (J : Nat → (Nat → Prop) → World → Prop) : Prop :=
  ∀ k O O' W W', J k O W → Turns O W W' → (∀ b, O' b → O b ∨ W.heap.size ≤ b) → J k O' W'

theorem Turns.refl (O : Nat → Prop) (W : World) : Turns O W W := ⟨rfl, rfl, rfl, Nat.le_refl _, fun _ _ _ => rfl⟩
theorem Turns.trans {O : Nat → Prop} {A B C : World} (h : Turns O A B) (k : Turns O B C) : Turns O A C :=
  ⟨k.os.trans h.os, k.tape.trans h.tape, k.output.trans h.output, Nat.le_trans h.size k.size, fun i hi ho => (k.block i (Nat.lt_of_lt_of_le hi h.size) ho).trans (h.block i hi ho)⟩
theorem Turns.mono {O O' : Nat → Prop} {A B : World} (h : Turns O A B) (ho : ∀ k, O k → O' k) : Turns O' A B :=
  ⟨h.os, h.tape, h.output, h.size, fun i hi hn => h.block i hi (fun e => hn (ho i e))⟩
theorem Turns.alloc (O : Nat → Prop) (W : World) (o : Obj) : Turns O W (W.alloc o) :=
  ⟨rfl, rfl, rfl, by simp, fun k hk _ => Below.heap_alloc W o k hk⟩
theorem Turns.putObj {O : Nat → Prop} {W : World} {l : Nat} (o : Obj) (hl : O l) : Turns O W (W.putObj l o) :=
  ⟨rfl, rfl, rfl, by simp, fun k _ hk => World.putObj_heap_other (fun e => hk (by rw [e]; exact hl))⟩
theorem Turns.grown {O : Nat → Prop} {W W' : World} {row : Option Nat} (h : W.grownBy W' row) (ho : ∀ k, row = some k → O k) : Turns O W W' :=
  ⟨h.os, h.tape, h.output, h.size, fun k hk hn => h.block k hk (fun e => hn (ho k e.symm))⟩
theorem Turns.setCell {O : Nat → Prop} {W : World} {p : Addr} (v : Value) (hp : O p.block) : Turns O W (W.setCell p v) :=
  ⟨rfl, rfl, rfl, by simp [World.setCell], fun k _ hk => Below.heap_setCell W p v k (fun e => hk (by rw [e]; exact hp))⟩
theorem Turns.of_below {O : Nat → Prop} {W W' : World} (h : Below W.heap.size W W') : Turns O W W' :=
  ⟨h.os, h.tape, h.output, h.size, fun k hk _ => h.block k hk⟩
theorem Turns.drew (O : Nat → Prop) (W : World) : Turns O W W.drew := ⟨rfl, rfl, rfl, Nat.le_refl _, fun _ _ _ => rfl⟩
theorem Keep.refl (n₀ : Nat) (O : Nat → Prop) (W : World) : Keep n₀ O W W := ⟨Below.refl _ _, fun _ _ => rfl⟩
theorem Keep.trans {n₀ : Nat} {O : Nat → Prop} {A B C : World} (h : Keep n₀ O A B) (k : Keep n₀ O B C) : Keep n₀ O A C :=
  ⟨h.below.trans k.below, fun i hi => (k.own i hi).trans (h.own i hi)⟩
theorem Keep.of_below {n₀ : Nat} {O : Nat → Prop} {W W' : World} (h : Below W.heap.size W W') (hn : n₀ ≤ W.heap.size) (hO : ∀ b, O b → b < W.heap.size) : Keep n₀ O W W' :=
  ⟨h.mono hn, fun k hk => h.block k (hO k hk)⟩
theorem Keep.setCell {n₀ : Nat} {O : Nat → Prop} {W : World} {p : Addr} (v : Value) (h0 : n₀ ≤ p.block) (hp : ¬ O p.block) : Keep n₀ O W (W.setCell p v) :=
  ⟨(Below.refl _ _).setCell h0 v, fun k hk => Below.heap_setCell W p v k (fun e => hp (by rw [← e]; exact hk))⟩
theorem Keep.grown {n₀ : Nat} {O : Nat → Prop} {W W' : World} {row : Option Nat} (h : W.grownBy W' row) (hn : n₀ ≤ W.heap.size) (hO : ∀ b, O b → b < W.heap.size) (hr : ∀ k, row = some k → n₀ ≤ k ∧ ¬ O k) : Keep n₀ O W W' :=
  ⟨(Below.refl _ _).grown h hn (fun k e => (hr k e).1), fun k hk => h.block k (hO k hk) (fun e => (hr k e.symm).2 hk)⟩

/-- an iterator's contract: all of L come, in their order, till a round says 'no more'; En says what a round is handed -/
def Gives (F : Fence) (n : Nat) (P : Program) (g : Nat) (lb : Array Value) {α : Type} (En : (Nat → Prop) → α → World → Array Value → Prop) (n₀ : Nat) (L : List α) (w : World) : Prop :=
  ∀ (l : Nat) (J Jx : Nat → (Nat → Prop) → World → Prop) (W : World), Below w.heap.size w W → AbidesT J → AbidesT Jx →
    (∀ k O W1 args x, J k O W1 → (∀ b, O b → b < W1.heap.size) → L[k]? = some x → En O x W1 args → YieldAt F (n - 1) P l args W1 fun e W' =>
      (e = .returned (.bool true) ∧ J (k + 1) O W' ∧ Keep n₀ O W1 W') ∨ (e = .returned (.bool false) ∧ Jx (k + 1) O W' ∧ Keep n₀ O W1 W')) →
    J 0 (fun _ => False) W →
    CallsIn F n P g (#[.func (.yield l) #[] #[]] ++ lb) W fun e W' => (∃ v, e = .returned v) ∧ ((∃ O, J L.length O W') ∨ (∃ k O, k ≤ L.length ∧ Jx k O W'))

def postT (n₀ : Nat) (I : Nat → (Nat → Prop) → World → Prop) (Ix : Code → Nat → (Nat → Prop) → World → Prop) (O : Nat → Prop) (k : Nat) (W : World) : Exit → Act → World → Prop
  | .normal, _, W' => Keep n₀ O W W' ∧ I k O W'
  | .ret, _, W' => Keep n₀ O W W' ∧ Ix .ret k O W'
  | .exit id, _, W' => Keep n₀ O W W' ∧ Ix (.exit id) k O W'
  | .goto t, _, W' => Keep n₀ O W W' ∧ Ix (.goto t) k O W'
  | .panic _, _, _ => False
  | .outgrown, _, _ => False

variable {F : Fence} {n : Nat} {P : Program}
theorem wpIn_rangeT {α : Type} {g : Operand} {ps : Array Tmp} {assign body : Code} {Q : Exit → Act → World → Prop} {a : Act} {w : World}
    (hro : F.round = none) (h1 : 1 ≤ n) {gf : Nat} {lb : Array Value} (hg : a.eval g = .func (.func gf) #[] lb) (hFg : F.fn gf) (eg : ∀ args w, (callFunc gf args).run P w = .ok (.enter gf args) w)
    {En : (Nat → Prop) → α → World → Array Value → Prop} {n₀ : Nat} {L : List α} {w0 : World} (hseq : Gives F (n - 1) P gf lb En n₀ L w0) (hb0 : Below w0.heap.size w0 w) (hn₀ : n₀ ≤ w.heap.size)
    (hE : ∀ O O' x W W' args, En O x W args → (∀ k, O k → O' k) → (∀ k, O k → W'.heap[k]? = W.heap[k]?) → Below n₀ W W' → En O' x W' args)
    (hps : ∀ O x W args, En O x W args → args.size = ps.size)
    (I : Nat → (Nat → Prop) → World → Prop) (Ix : Code → Nat → (Nat → Prop) → World → Prop) (hI : AbidesT I) (hIx : ∀ c, AbidesT (Ix c)) (h0 : I 0 (fun _ => False) w)
    (hround : ∀ (l k : Nat) (O : Nat → Prop) (x : α) (args : Array Value) (W : World), (∀ b, O b → b < W.heap.size) → n₀ ≤ W.heap.size → I k O W → L[k]? = some x → En O x W args →
      assign.wpIn (F.inRound l) (n - 1 - 1) P (Exit.then (fun a₁ W₁ => Below W.heap.size W W₁ ∧ ∀ W₂, Turns O W₁ W₂ → W₂.heap.size = W₁.heap.size → I k O W₂ → En O x W₂ args →
        body.wpIn (F.inRound l) (n - 1 - 1) P (postT n₀ I Ix O (k + 1) W₂) a₁ W₂) (fun _ _ _ => False)) { tmps := (ps.zip args).foldl (fun t (p, v) => t.setIfInBounds p v) a.tmps, defers := [] } W)
    (hdone : ∀ (D : Nat) (O : Nat → Prop) (W : World), w.heap.size ≤ D → O D → I L.length O W → W.heap[D]? = some (.deferred (some [])) → Q .normal { a with defers := { target := .collected D, args := #[] } :: a.defers } W)
    (hstop : ∀ (D : Nat) (O : Nat → Prop) (c : Code) (k : Nat) (W : World), w.heap.size ≤ D → O D → k ≤ L.length → Ix c k O W → W.heap[D]? = some (.deferred (some [])) → c.wpIn F n P Q { a with defers := { target := .collected D, args := #[] } :: a.defers } W) :
    (Code.rangeFunc g ps assign body).wpIn F n P Q a w := by
  refine wpIn_rangeFunc ?_
  intro fn hfn
  rw [hro]
  obtain ⟨D, hD⟩ : ∃ D, D = w.heap.size := ⟨_, rfl⟩
  obtain ⟨rec, hrec⟩ : ∃ rec : LoopState → Option Code → Loop, rec = fun st pe => { state := st, pending := pe, fn, tmps := a.tmps, params := ps, assign, body, defers := D } := ⟨_, rfl⟩
  obtain ⟨W1, hW1⟩ : ∃ W1, (w.alloc (.deferred (some []))).alloc (.loop (rec .ready none)) = W1 := ⟨_, rfl⟩
  have hT1 : Turns (fun _ => False) w W1 := by rw [← hW1]; exact (Turns.alloc _ _ _).trans (Turns.alloc _ _ _)
  have hL1 : W1.heap[D + 1]? = some (.loop (rec .ready none)) := by
    rw [← hW1, hD]; have := World.alloc_heap_new (w.alloc (.deferred (some []))) (.loop (rec .ready none)); rwa [World.size_alloc] at this
  have hK1 : W1.heap[D]? = some (.deferred (some [])) := by
    rw [← hW1, hD]; exact (Below.heap_alloc _ _ _ (by simp)).trans (World.alloc_heap_new w _)
  have hb1 : Below w0.heap.size w0 W1 := by
    rw [← hW1]; exact hb0.trans ((((Below.refl _ w).alloc (Nat.le_refl _) _).alloc (by simp) _).mono hb0.size)
  obtain ⟨U, hU⟩ : ∃ U : (Nat → Prop) → Nat → Prop, U = fun O b => O b ∨ b = D ∨ b = D + 1 := ⟨_, rfl⟩
  have hUl : ∀ O, U O (D + 1) := fun O => by rw [hU]; exact .inr (.inr rfl)
  have hUo : ∀ O b, O b → U O b := fun O b h => by rw [hU]; exact .inl h
  have hsz : ∀ {W : World} {o : Obj}, W.heap[D + 1]? = some o → D + 1 < W.heap.size := fun h => (Array.getElem?_eq_some_iff.1 h).1
  refine ⟨D + 1, [{ target := .collected D, args := #[] }], W1, { target := .fn (.func gf) lb, args := #[.func (.yield (D + 1)) #[] #[]] }, W1, gf,
    #[.func (.yield (D + 1)) #[] #[]] ++ lb, W1, ?_, ?_, ?_, ?_, fun _ => h1, ?_⟩
  · rw [← hW1, hrec, hD]; exact run_enterLoop_outer _ _ _ _ _
  · simp only [resolve, hg]
    simp [go_sem]
  · intro f' hf'; simp [Target.leads] at hf'; subst hf'; exact hFg
  · simp [invoke, go_sem, eg]
  · have hab : ∀ (G : Nat → (Nat → Prop) → World → Prop) (hG : AbidesT G) (r : Loop), AbidesT (fun k O W => G k (U O) W ∧ W.heap[D + 1]? = some (.loop r) ∧ W.heap[D]? = some (.deferred (some [])) ∧ ¬ O D ∧ ¬ O (D + 1)) := by
      rintro G hG r k O O' W W' ⟨hg, hl, hk, hn1, hn2⟩ ht hgr
      have hlt := hsz hl
      refine ⟨hG k (U O) (U O') W W' hg (ht.mono (hUo O)) ?_, (ht.block _ hlt hn2).trans hl, (ht.block _ (by omega) hn1).trans hk, fun h => ?_, fun h => ?_⟩
      · intro b hb
        rw [hU] at hb ⊢
        rcases hb with hb | hb
        · rcases hgr b hb with h | h
          · exact .inl (.inl h)
          · exact .inr h
        · exact .inl (.inr hb)
      · rcases hgr _ h with h | h
        · exact hn1 h
        · omega
      · rcases hgr _ h with h | h
        · exact hn2 h
        · omega
    have hbusy : ∀ (G : Nat → (Nat → Prop) → World → Prop) (hG : AbidesT G) k O W o, G k (U O) W → G k (U O) (W.putObj (D + 1) o) := fun G hG k O W o h =>
      hG k (U O) (U O) W _ h (Turns.putObj o (hUl O)) (fun b hb => .inl hb)
    have hput : ∀ (W : World) (o : Obj), Below n₀ W (W.putObj (D + 1) o) := fun W o =>
      ⟨rfl, rfl, rfl, by simp, fun k hk => World.putObj_heap_other (by omega)⟩
    refine (hseq (D + 1) (fun k O W => I k (U O) W ∧ W.heap[D + 1]? = some (.loop (rec .ready none)) ∧ W.heap[D]? = some (.deferred (some [])) ∧ ¬ O D ∧ ¬ O (D + 1))
      (fun k O W => ∃ c, Ix c k (U O) W ∧ W.heap[D + 1]? = some (.loop (rec .done (some c))) ∧ W.heap[D]? = some (.deferred (some [])) ∧ ¬ O D ∧ ¬ O (D + 1))
      W1 hb1 (hab I hI _)
      (fun k O O' W W' ⟨c, h⟩ ht hgr => ⟨c, hab (Ix c) (hIx c) _ k O O' W W' h ht hgr⟩)
      ?_ ⟨hI 0 _ _ w W1 h0 hT1 (fun b hb => by rw [hU] at hb; rcases hb with hb | rfl | rfl <;> first | exact .inl hb | exact .inr (by omega)), hL1, hK1, id, id⟩).mono ?_
    · rintro k O W args x ⟨hi, hl, hk, hn1, hn2⟩ hO hx he
      have hlt := hsz hl
      have hy := run_yield (P := P) (args := args) hl (by rw [hrec]; exact hps _ _ _ _ he)
      rw [hrec] at hy
      have hUb : ∀ b, U O b → b < W.heap.size := fun b hb => by
        rw [hU] at hb
        rcases hb with hb | rfl | rfl
        · exact hO b hb
        · omega
        · omega
      have heU := hE O (U O) x W W args he (hUo O) (fun _ _ => rfl) (Below.refl _ _)
      have hsn : n₀ ≤ W.heap.size := by omega
      refine ⟨fn, _, assign, body, hy, roundIn_of_wpIn hfn (wpIn_mono (hround (D + 1) k (U O) x args W hUb hsn hi hx heU) ?_)⟩
      clear hy
      rintro ea aa W1a hpa
      cases ea with
      | exit id => exact hpa.elim
      | goto t => exact hpa.elim
      | ret => exact hpa.elim
      | panic ch => exact hpa.elim
      | outgrown => exact hpa.elim
      | normal =>
      obtain ⟨hBa, hbodyA⟩ := hpa
      have hla : W1a.heap[D + 1]? = some (.loop (rec .ready none)) := (hBa.block _ hlt).trans hl
      have hka : W1a.heap[D]? = some (.deferred (some [])) := (hBa.block _ (by omega)).trans hk
      refine ⟨_, run_beginRound hla (by rw [hrec]), ?_⟩
      obtain ⟨W2, hW2⟩ : ∃ W2, W2 = W1a.putObj (D + 1) (.loop { rec .ready none with state := .busy }) := ⟨_, rfl⟩
      rw [← hW2]
      have hT2 : Turns (U O) W1a W2 := by rw [hW2]; exact Turns.putObj _ (hUl O)
      have hl2 : W2.heap[D + 1]? = some (.loop { rec .ready none with state := .busy }) := by rw [hW2]; exact World.putObj_heap_same (hsz hla)
      have hk2 : W2.heap[D]? = some (.deferred (some [])) := by rw [hW2]; exact (World.putObj_heap_other (by omega)).trans hka
      have hi1 : I k (U O) W1a := hI k (U O) (U O) W W1a hi (Turns.of_below hBa) (fun b hb => .inl hb)
      have hi2 : I k (U O) W2 := hI k (U O) (U O) W1a W2 hi1 hT2 (fun b hb => .inl hb)
      have hB2 : Below n₀ W W2 := by rw [hW2]; exact (hBa.mono hsn).trans (hput _ _)
      have ho2 : ∀ b, O b → W2.heap[b]? = W.heap[b]? := fun b hb => by rw [hW2]; exact (World.putObj_heap_other (fun e => hn2 (by rw [← e]; exact hb))).trans (hBa.block b (hO b hb))
      have hs2 : W2.heap.size = W1a.heap.size := by rw [hW2]; simp
      have he2 := hE O (U O) x W W2 args he (hUo O) ho2 hB2
      refine wpIn_mono (hbodyA W2 hT2 hs2 hi2 he2) ?_
      have fin : ∀ (jump : Option Code) (W3 : World), Keep n₀ (U O) W2 W3 →
          (Instr.endRound (D + 1) jump).run P W3 = .ok (.bool jump.isNone) (W3.putObj (D + 1) (.loop (rec (if jump.isNone then .ready else .done) jump))) ∧
          (W3.putObj (D + 1) (.loop (rec (if jump.isNone then .ready else .done) jump))).heap[D + 1]? = some (.loop (rec (if jump.isNone then .ready else .done) jump)) ∧
          (W3.putObj (D + 1) (.loop (rec (if jump.isNone then .ready else .done) jump))).heap[D]? = some (.deferred (some [])) := fun jump W3 hk3 => by
        have hl3 := (hk3.own _ (hUl O)).trans hl2
        have hd3 := (hk3.own D (by rw [hU]; exact .inr (.inl rfl))).trans hk2
        have := run_endRound (P := P) jump hl3
        rw [hrec] at this ⊢
        exact ⟨this, World.putObj_heap_same (hsz hl3), (World.putObj_heap_other (by omega)).trans hd3⟩
      have hfar : ∀ (jump : Option Code) (W3 : World), Keep n₀ (U O) W2 W3 → Keep n₀ O W (W3.putObj (D + 1) (.loop (rec (if jump.isNone then .ready else .done) jump))) := fun jump W3 hk3 =>
        ⟨(hB2.trans hk3.below).trans (hput _ _), fun b hb => (World.putObj_heap_other (fun e => hn2 (by rw [← e]; exact hb))).trans ((hk3.own b (hUo O b hb)).trans (ho2 b hb))⟩
      rintro e a3 W3 hp
      cases e with
      | normal =>
        obtain ⟨hk3, hi3⟩ := hp
        obtain ⟨hr, hl4, hk4⟩ := fin none W3 hk3
        exact ⟨_, _, hr, .inl ⟨rfl, ⟨hbusy I hI _ O W3 _ hi3, hl4, hk4, hn1, hn2⟩, hfar none W3 hk3⟩⟩
      | ret =>
        obtain ⟨hk3, hi3⟩ := hp
        obtain ⟨hr, hl4, hk4⟩ := fin (some .ret) W3 hk3
        exact ⟨_, _, hr, .inr ⟨rfl, ⟨.ret, hbusy _ (hIx _) _ O W3 _ hi3, hl4, hk4, hn1, hn2⟩, hfar (some .ret) W3 hk3⟩⟩
      | exit id =>
        obtain ⟨hk3, hi3⟩ := hp
        obtain ⟨hr, hl4, hk4⟩ := fin (some (.exit id)) W3 hk3
        exact ⟨_, _, hr, .inr ⟨rfl, ⟨.exit id, hbusy _ (hIx _) _ O W3 _ hi3, hl4, hk4, hn1, hn2⟩, hfar (some (.exit id)) W3 hk3⟩⟩
      | goto t =>
        obtain ⟨hk3, hi3⟩ := hp
        obtain ⟨hr, hl4, hk4⟩ := fin (some (.goto t)) W3 hk3
        exact ⟨_, _, hr, .inr ⟨rfl, ⟨.goto t, hbusy _ (hIx _) _ O W3 _ hi3, hl4, hk4, hn1, hn2⟩, hfar (some (.goto t)) W3 hk3⟩⟩
      | panic ch => exact hp.elim
      | outgrown => exact hp.elim
    · rintro e W2 ⟨⟨v, rfl⟩, (⟨O, hi, hl, hk, _, _⟩ | ⟨k, O, hkl, c, hi, hl, hk, _, _⟩)⟩
      · exact ⟨none, _, by have := run_endLoop (P := P) hl (by rw [hrec]; simp); rw [hrec] at this; exact this, hdone D (U O) _ (by omega) (by rw [hU]; exact .inr (.inl rfl)) (hbusy I hI _ O W2 _ hi) ((World.putObj_heap_other (by omega)).trans hk)⟩
      · exact ⟨some c, _, by have := run_endLoop (P := P) hl (by rw [hrec]; simp); rw [hrec] at this; exact this, hstop D (U O) c k _ (by omega) (by rw [hU]; exact .inr (.inl rfl)) hkl (hbusy _ (hIx c) _ O W2 _ hi) ((World.putObj_heap_other (by omega)).trans hk)⟩
end Go.Proofs.YtpjlgahbbmlngaaDoor

namespace Go.Proofs.YtpjlgahbbmlngaaDoor

structure Ed where
  f : Int
  t : Int
  s : ByteArray
  deriving DecidableEq

def isSpanB (a b n : Int) : Bool := decide (0 ≤ a ∧ a ≤ b ∧ b ≤ n)
def rising (n : Int) : Int → List Ed → Bool
  | _, [] => true
  | last, e :: l => decide (last ≤ e.f) && isSpanB e.f e.t n && rising n e.t l
def growE (e : Ed) : Int := (e.s.size : Int) - (e.t - e.f)
def sumG : List Ed → Int
  | [] => 0
  | e :: l => growE e + sumG l
/-- Check of a string of so many bytes. -/
def checkLen (n : Int) (l : List Ed) : Int :=
  if 100 < l.length then 3 else if rising n 0 l = false then 2 else if 20000 < n + sumG l then 7 else 0
def checkE (n : Int) (l : List Ed) : Int := if 20000 < n then 3 else checkLen n l

/-- Lists that are small enough that no sum over them passes an int. -/
def Small (l : List Ed) : Prop := l.length ≤ 1000 ∧ ∀ e ∈ l, e.s.size ≤ 60000

theorem Small.tail {e : Ed} {l : List Ed} (h : Small (e :: l)) : Small l :=
  ⟨by have := h.1; simp at this; omega, fun x hx => h.2 x (by simp [hx])⟩
theorem Small.drop {l : List Ed} (h : Small l) (k : Nat) : Small (l.drop k) :=
  ⟨by have := h.1; simp; omega, fun x hx => h.2 x (List.mem_of_mem_drop hx)⟩
theorem Small.take {l : List Ed} (h : Small l) (k : Nat) : Small (l.take k) :=
  ⟨by have := h.1; simp; omega, fun x hx => h.2 x (List.mem_of_mem_take hx)⟩
theorem Small.get {l : List Ed} (h : Small l) {k : Nat} (hk : k < l.length) : l[k].s.size ≤ 60000 := h.2 _ (List.getElem_mem hk)

theorem rising_cons {n last : Int} {e : Ed} {l : List Ed} : rising n last (e :: l) = true ↔ last ≤ e.f ∧ 0 ≤ e.f ∧ e.f ≤ e.t ∧ e.t ≤ n ∧ rising n e.t l = true := by
  simp only [rising, isSpanB, Bool.and_eq_true, decide_eq_true_eq]
  constructor
  · rintro ⟨⟨h1, h2, h3, h4⟩, hr⟩; exact ⟨h1, h2, h3, h4, hr⟩
  · rintro ⟨h1, h2, h3, h4, hr⟩; exact ⟨⟨h1, h2, h3, h4⟩, hr⟩

/-- what stands at place k of a rising list -/
theorem rising_get {n : Int} : ∀ {l : List Ed} {last : Int}, rising n last l = true → ∀ {k : Nat} (hk : k < l.length), last ≤ l[k].f ∧ 0 ≤ l[k].f ∧ l[k].f ≤ l[k].t ∧ l[k].t ≤ n
  | [], _, _, k, hk => by simp at hk
  | e :: l, last, h, k, hk => by
    rw [rising_cons] at h
    match k with
    | 0 => simp; omega
    | k + 1 =>
      have := rising_get h.2.2.2.2 (k := k) (by simpa using hk)
      simp at this ⊢
      omega
theorem rising_next {n : Int} : ∀ {l : List Ed} {last : Int}, rising n last l = true → ∀ {k : Nat} (hk : k < l.length) (hk1 : k + 1 < l.length), l[k].t ≤ l[k + 1].f
  | [], _, _, k, hk, _ => by simp at hk
  | e :: l, last, h, k, hk, hk1 => by
    rw [rising_cons] at h
    match k with
    | 0 => have := rising_get h.2.2.2.2 (k := 0) (by simpa using hk1); simp; omega
    | k + 1 => simpa using rising_next h.2.2.2.2 (k := k) (by simpa using hk) (by simpa using hk1)
theorem rising_drop {n : Int} : ∀ {l : List Ed} {last : Int} (_ : rising n last l = true) {k : Nat} (hk : k < l.length), rising n l[k].t (l.drop (k + 1)) = true
  | [], _, _, k, hk => by simp at hk
  | e :: l, last, h, k, hk => by
    rw [rising_cons] at h
    match k with
    | 0 => simpa using h.2.2.2.2
    | k + 1 => simpa using rising_drop h.2.2.2.2 (k := k) (by simpa using hk)

theorem sumG_take_succ {l : List Ed} {k : Nat} (hk : k < l.length) : sumG (l.take (k + 1)) = sumG (l.take k) + growE l[k] := by
  induction l generalizing k with
  | nil => simp at hk
  | cons e l ih =>
    match k with
    | 0 => simp [sumG]
    | k + 1 => simp only [List.take_succ_cons, sumG]; rw [ih (by simpa using hk)]; simp; omega
theorem sumG_take_all (l : List Ed) : sumG (l.take l.length) = sumG l := by rw [List.take_length]
/-- bounds of the partial sums, of a list within so many bytes -/
theorem sumG_bd {n : Int} (hn : n ≤ 60000) : ∀ {l : List Ed} {last : Int}, 0 ≤ last → Small l → rising n last l = true → -60000 * (l.length : Int) ≤ sumG l ∧ sumG l ≤ 60000 * (l.length : Int)
  | [], _, _, _, _ => by simp [sumG]
  | e :: l, last, h0, hs, h => by
    rw [rising_cons] at h
    have ih := sumG_bd hn (by omega) hs.tail h.2.2.2.2
    have h1 := hs.2 e (by simp)
    simp only [sumG, growE, List.length_cons]
    omega
theorem rising_take {n : Int} : ∀ {l : List Ed} {last : Int} (_ : rising n last l = true) (k : Nat), rising n last (l.take k) = true
  | [], _, _, k => by simp [rising]
  | e :: l, last, h, 0 => by simp [rising]
  | e :: l, last, h, k + 1 => by
    rw [rising_cons] at h
    rw [List.take_succ_cons, rising_cons]
    exact ⟨h.1, h.2.1, h.2.2.1, h.2.2.2.1, rising_take h.2.2.2.2 k⟩
theorem sumG_take_bd {n : Int} (hn : n ≤ 60000) {l : List Ed} {last : Int} (h0 : 0 ≤ last) (hs : Small l) (h : rising n last l = true) (k : Nat) : -60000000 ≤ sumG (l.take k) ∧ sumG (l.take k) ≤ 60000000 := by
  have := sumG_bd hn h0 (hs.take k) (rising_take h k)
  have h1 := (hs.take k).1
  omega

def isBef (e : Ed) (o : Int) (after : Bool) : Bool := if e.f = o ∧ e.t = o then after else decide (e.t ≤ o)
/-- rope.Move, of edits in rising order -/
def moveE (o : Int) (after : Bool) : Int → List Ed → Int
  | sh, [] => o + sh
  | sh, e :: l => if e.f < o ∧ o < e.t then e.f + sh + e.s.size else if isBef e o after = true then moveE o after (sh + growE e) l else o + sh
def moveErr (l : List Ed) (o : Int) : Int := if 100 < l.length then 3 else if rising 20000 0 l = false ∨ isSpanB 0 o 20000 = false then 2 else 0
def befR (e : Ed) (o : Int) (after : Bool) : Bool := decide (e.t < o) || (decide (e.t = o) && decide (e.f < o)) || (decide (e.f = o) && decide (e.t = o) && after)
/-- the specification's Move -/
def moveR (o : Int) (after : Bool) : Int → List Ed → Int
  | sh, [] => o + sh
  | sh, e :: l => if e.f < o ∧ o < e.t then e.f + sh + e.s.size else if befR e o after = true then moveR o after (sh + growE e) l else moveR o after sh l
theorem moveR_past {n o : Int} {after : Bool} : ∀ {l : List Ed} {last sh : Int}, rising n last l = true → (o < last ∨ (o = last ∧ after = false)) → moveR o after sh l = o + sh
  | [], _, _, _, _ => rfl
  | e :: l, last, sh, h, hl => by
    rw [rising_cons] at h
    have hb : befR e o after = false := by
      unfold befR
      rcases hl with hl | ⟨hl, ha⟩
      · simp; omega
      · simp [ha]; omega
    simp only [moveR, hb]
    rw [if_neg (by omega)]
    refine moveR_past h.2.2.2.2 ?_
    rcases hl with hl | ⟨hl, ha⟩
    · exact .inl (by omega)
    · by_cases hh : o < e.t
      · exact .inl hh
      · exact .inr ⟨by omega, ha⟩
theorem move_same {n o : Int} {after : Bool} : ∀ {l : List Ed} {last sh : Int}, rising n last l = true → moveE o after sh l = moveR o after sh l
  | [], _, _, _ => rfl
  | e :: l, last, sh, h => by
    rw [rising_cons] at h
    simp only [moveE, moveR]
    by_cases h1 : e.f < o ∧ o < e.t
    · rw [if_pos h1, if_pos h1]
    · rw [if_neg h1, if_neg h1]
      have hbb : isBef e o after = befR e o after := by
        unfold isBef befR
        by_cases h2 : e.f = o ∧ e.t = o
        · obtain ⟨rfl, h3⟩ := h2
          simp [h3]
        · rw [if_neg h2, Bool.eq_iff_iff]; simp; omega
      rw [hbb]
      by_cases hb : befR e o after = true
      · rw [if_pos hb, if_pos hb]; exact move_same h.2.2.2.2
      · rw [if_neg hb, if_neg hb]
        refine (moveR_past h.2.2.2.2 ?_).symm
        have hb' : befR e o after = false := Bool.eq_false_iff.2 hb
        by_cases hh : o < e.t
        · exact .inl hh
        · refine .inr ?_
          simp only [befR, Bool.or_eq_false_iff, Bool.and_eq_false_iff, decide_eq_false_iff_not] at hb'
          obtain ⟨⟨b1, b2⟩, b3⟩ := hb'
          have e1 : e.t = o := by omega
          have e2 : e.f = o := by rcases b2 with b2 | b2 <;> omega
          refine ⟨e1.symm, ?_⟩
          rcases b3 with (b3 | b3) | b3
          · exact absurd e2 b3
          · exact absurd e1 b3
          · exact b3

/-! ### The string after edits -/
def sub (t : ByteArray) (a b : Nat) : List UInt8 := (t.extract a b).data.toList
/-- the bytes from a place on up to another, after edits -/
def editedL (t : ByteArray) (to : Nat) : Nat → List Ed → List UInt8
  | a, [] => sub t a to
  | a, e :: l => sub t a e.f.toNat ++ (e.s.data.toList ++ editedL t to e.t.toNat l)
def mkB (l : List UInt8) : ByteArray := ⟨l.toArray⟩
/-- the string after edits -/
def applyB (t : ByteArray) (l : List Ed) : ByteArray := mkB (editedL t t.size 0 l)

theorem sub_eq (t : ByteArray) (a b : Nat) : sub t a b = (t.data.toList.drop a).take (b - a) := by
  unfold sub
  rw [ByteArray.data_extract, Array.toList_extract]
theorem sub_length (t : ByteArray) (a b : Nat) : (sub t a b).length = min b t.size - a := by
  unfold sub; rw [Array.length_toList]; show (t.extract a b).size = _; rw [ByteArray.size_extract]
theorem sub_le (t : ByteArray) (a b : Nat) : (sub t a b).length ≤ t.size := by rw [sub_length]; omega
theorem mkB_size (l : List UInt8) : (mkB l).size = l.length := by show l.toArray.size = l.length; simp
theorem mkB_inj {a b : List UInt8} (h : mkB a = mkB b) : a = b := by
  have := congrArg (fun x : ByteArray => x.data.toList) h
  simpa [mkB] using this
theorem mkB_toList (l : List UInt8) : (mkB l).data.toList = l := by simp [mkB]
theorem mkB_of (t : ByteArray) : mkB t.data.toList = t := by cases t; simp [mkB]
theorem size_toList (t : ByteArray) : t.data.toList.length = t.size := Array.length_toList
end Go.Proofs.YtpjlgahbbmlngaaDoor

namespace Go.Proofs.YtpjlgahbbmlngaaDoor

theorem checkE_ok {n : Int} {l : List Ed} (h : checkE n l = 0) : n ≤ 20000 ∧ l.length ≤ 100 ∧ rising n 0 l = true ∧ n + sumG l ≤ 20000 := by
  unfold checkE checkLen at h
  by_cases h1 : 20000 < n
  · rw [if_pos h1] at h; omega
  · rw [if_neg h1] at h
    by_cases h2 : 100 < l.length
    · rw [if_pos h2] at h; omega
    · rw [if_neg h2] at h
      by_cases h3 : rising n 0 l = false
      · rw [if_pos h3] at h; omega
      · rw [if_neg h3] at h
        by_cases h4 : 20000 < n + sumG l
        · rw [if_pos h4] at h; omega
        · exact ⟨by omega, by omega, by simpa using h3, by omega⟩
theorem checkE_of {n : Int} {l : List Ed} (h1 : n ≤ 20000) (h2 : l.length ≤ 100) (h3 : rising n 0 l = true) (h4 : n + sumG l ≤ 20000) : checkE n l = 0 := by
  unfold checkE checkLen
  rw [if_neg (by omega), if_neg (by omega), if_neg (by rw [h3]; simp), if_neg (by omega)]
/-- Apply's string -/
def applyR (t : ByteArray) (l : List Ed) : ByteArray := if checkE t.size l = 0 then applyB t l else ByteArray.empty
theorem applyR_ok {t : ByteArray} {l : List Ed} (h : checkE t.size l = 0) : applyR t l = applyB t l := by unfold applyR; rw [if_pos h]
theorem applyR_no {t : ByteArray} {l : List Ed} (h : checkE t.size l ≠ 0) : applyR t l = ByteArray.empty := by unfold applyR; rw [if_neg h]
theorem mkB_add (l : List UInt8) (s : ByteArray) : mkB l ++ s = mkB (l ++ s.data.toList) := by
  apply ByteArray.ext
  simp [mkB, ByteArray.data_append]
end Go.Proofs.YtpjlgahbbmlngaaDoor

namespace Go.Proofs.YtpjlgahbbmlngaaDoor
set_option linter.unusedVariables false
set_option linter.unusedSimpArgs false

/-- how many equal bytes two lists begin with -/
def cpre : List UInt8 → List UInt8 → Nat
  | a :: x, b :: y => if a = b then cpre x y + 1 else 0
  | _, _ => 0
theorem cpre_le : ∀ (x y : List UInt8), cpre x y ≤ x.length ∧ cpre x y ≤ y.length
  | [], y => by simp [cpre]
  | a :: x, [] => by simp [cpre]
  | a :: x, b :: y => by
    have := cpre_le x y
    simp only [cpre, List.length_cons]
    split <;> omega
theorem cpre_step {x y : List UInt8} {k : Nat} (hx : k < x.length) (hy : k < y.length) (h : x[k] = y[k]) : cpre (x.drop k) (y.drop k) = cpre (x.drop (k + 1)) (y.drop (k + 1)) + 1 := by
  rw [List.drop_eq_getElem_cons hx, List.drop_eq_getElem_cons hy]
  simp [cpre, h]
theorem cpre_stop {x y : List UInt8} {k : Nat} (hx : k < x.length) (hy : k < y.length) (h : x[k] ≠ y[k]) : cpre (x.drop k) (y.drop k) = 0 := by
  rw [List.drop_eq_getElem_cons hx, List.drop_eq_getElem_cons hy]
  simp [cpre, h]
theorem cpre_end {x y : List UInt8} {k : Nat} (h : x.length ≤ k ∨ y.length ≤ k) : cpre (x.drop k) (y.drop k) = 0 := by
  rcases h with h | h
  · rw [List.drop_of_length_le h]; simp [cpre]
  · rw [List.drop_of_length_le h]; cases x.drop k <;> simp [cpre]
def byt (s : ByteArray) : List UInt8 := s.data.toList
theorem byt_length (s : ByteArray) : (byt s).length = s.size := size_toList s
theorem byt_get (s : ByteArray) (k : Nat) (h : k < s.size) (h2 : k < (byt s).length) : (byt s)[k] = s[k] := rfl
/-- the byte that many from the end -/
theorem rev_get (s : ByteArray) (k : Nat) (h : k < s.size) (h2 : k < (byt s).reverse.length) : (byt s).reverse[k] = s[s.size - 1 - k]'(by omega) := by
  rw [List.getElem_reverse]
  have e : (byt s).length - 1 - k = s.size - 1 - k := by rw [byt_length]
  have : (byt s)[(byt s).length - 1 - k]'(by rw [byt_length]; omega) = (byt s)[s.size - 1 - k]'(by rw [byt_length]; omega) := getElem_congr_idx e
  exact this
theorem rev_length (s : ByteArray) : (byt s).reverse.length = s.size := by rw [List.length_reverse, byt_length]
theorem byt_drop (s : ByteArray) (p : Nat) : byt (s.extract p s.size) = (byt s).drop p := by
  show sub s p s.size = _
  rw [sub_eq]
  apply List.take_of_length_le
  simp
def diffL (a b : ByteArray) : List Ed :=
  if a = b then []
  else [⟨cpre (byt a) (byt b), (a.size : Int) - cpre ((byt a).drop (cpre (byt a) (byt b))).reverse ((byt b).drop (cpre (byt a) (byt b))).reverse,
    b.extract (cpre (byt a) (byt b)) (b.size - cpre ((byt a).drop (cpre (byt a) (byt b))).reverse ((byt b).drop (cpre (byt a) (byt b))).reverse)⟩]
end Go.Proofs.YtpjlgahbbmlngaaDoor
