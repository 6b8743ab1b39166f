/-
  A map of nodes by bytes: which bytes stand in it, each with its node's block.
-/
import Derived.Test.YtmfchlbafpkgaaaD03
import Derived.Test.YtmfchlbafpkgaaaD05
import Derived.Maps.OwnOps
import Derived.Maps.OwnSet
import Derived.Maps.RangeWalk
import Derived.Sort.Walk0
import Derived.Sort.KeysCollected
import Derived.OpenShut
set_option linter.unusedVariables false
set_option linter.unusedSimpArgs false
namespace Go.Proofs.Ytmfchlbafpkgaaa
open Go.RowKit Go.Shelf

theorem keyB : Maps.Keyed Try.prog 5 := Maps.int_keyed Try.underlying5
theorem zeroN (w : World) : (zeroValue 47).run Try.prog w = .ok (.pointer none) w := by kernel_rfl

/-- A byte, as a key. -/
abbrev litB (x : UInt8) : Lit := .int .u8 (x.toNat : Int)
theorem litB_inj {x y : UInt8} (h : litB x = litB y) : x = y := by
  injection h with _ h
  exact UInt8.toNat_inj.1 (by omega)
theorem key_byte (x : UInt8) : keyOf Try.prog 5 (.int .u8 (x.toNat : Int)) = some (litB x) :=
  Maps.keyOf_int_mk Try.underlying5 (a := (x.toNat : Int)) (WalkArith.wf_u8 (by have := x.toNat_lt; omega))
theorem key_inv {key : Value} {kl : Lit} (h : keyOf Try.prog 5 key = some kl) : ∃ x : UInt8, key = .int .u8 (x.toNat : Int) ∧ kl = litB x := by
  obtain ⟨x, rfl, rfl, hw⟩ := Maps.keyOf_int_inv Try.underlying5 h
  have hb := bounds_u8 hw
  have e : ((UInt8.ofNat x.toNat).toNat : Int) = x := by rw [UInt8.toNat_ofNat']; omega
  exact ⟨UInt8.ofNat x.toNat, by rw [e], by unfold litB; rw [e]⟩

/-- A pointer to a block, as a map's element. -/
def ptrElem (v : Value) : Option (DataW Unit × List MemPlace) :=
  match v with
  | .pointer none => some (.nil, [])
  | .pointer (some ⟨b, 0, none⟩) => some (.lit (.int .i64 (b : Int)), [])
  | _ => none
theorem ptrElem_mk (b : Nat) : ptrElem (.pointer (some ⟨b, 0, none⟩)) = some (.lit (.int .i64 (b : Int)), []) := rfl
theorem ptrElem_inv {v : Value} {z : DataW Unit × List MemPlace} (h : ptrElem v = some z) : (v = .pointer none ∧ z = (.nil, [])) ∨ ∃ b : Nat, v = .pointer (some ⟨b, 0, none⟩) ∧ z = (.lit (.int .i64 (b : Int)), []) := by
  unfold ptrElem at h
  split at h
  · cases h; exact .inl ⟨rfl, rfl⟩
  · cases h; exact .inr ⟨_, rfl, rfl⟩
  · cases h

theorem ownsMap_tight {w : World} {b n : Nat} {D : DataW Unit} (h : w.ownsMap Try.prog 5 ptrElem b n D) : w.ownsMap Try.prog 5 ptrElem b (Maps.size D) D := by
  obtain ⟨es, clock, hb, F, hs, rfl⟩ := h
  exact ⟨es, clock, hb, F, by simp [Maps.size, length_sorted], rfl⟩

/-- A pointer, or none. -/
def ptrV (p : Option Nat) : Value := .pointer (p.map fun b => ⟨b, 0, none⟩)

/-- Block m is a map in which just the bytes of P stand, each with its block. -/
def HasN (w : World) (m : Nat) (P : UInt8 → Option Nat) : Prop :=
  ∃ D : DataW Unit, w.ownsMap Try.prog 5 ptrElem m (Maps.size D) D ∧ (∀ x, Maps.has D (litB x) = (P x).isSome) ∧
    (∀ x b, P x = some b → ∀ z, D.atKey (litB x) z = .lit (.int .i64 (b : Int)))

theorem hasN_made (w : World) : HasN (w.alloc (.map #[] 0)) w.heap.size (fun _ => none) := ⟨.map [], World.ownsMap_made _ _ _ _, fun _ => rfl, (fun x b h => by cases h)⟩
theorem HasN.same {w w' : World} {m : Nat} {P : UInt8 → Option Nat} (h : HasN w m P) (he : w'.heap[m]? = w.heap[m]?) : HasN w' m P := by
  obtain ⟨D, ⟨es, clock, hb, F, hs, hD⟩, h2⟩ := h
  exact ⟨D, ⟨es, clock, he.trans hb, F, hs, hD⟩, h2⟩
theorem HasN.lt {w : World} {m : Nat} {P : UInt8 → Option Nat} (h : HasN w m P) : m < w.heap.size := by
  obtain ⟨D, h1, _⟩ := h
  exact h1.lt
theorem HasN.mem {w : World} {m : Nat} {P : UInt8 → Option Nat} (h : HasN w m P) : ∃ es clock, w.heap[m]? = some (.map es clock) := by
  obtain ⟨D, ⟨es, clock, hb, _⟩, _⟩ := h
  exact ⟨es, clock, hb⟩
theorem HasN.look {w : World} {m : Nat} {P : UInt8 → Option Nat} (h : HasN w m P) (x : UInt8) :
    (Instr.lookup 107 (.map (some m)) (.int .u8 (x.toNat : Int)) false).run Try.prog w = .ok (ptrV (P x)) w := by
  obtain ⟨D, h1, h0, h2⟩ := h
  obtain ⟨v, ps, hrun, hv⟩ := h1.lookup keyB Try.underlying107 (zeroN w) (zd := .nil) (zp := []) rfl (key_byte x)
  cases hp : P x with
  | some b =>
    rw [h2 x b hp] at hv
    rcases ptrElem_inv hv with ⟨_, h3⟩ | ⟨b', rfl, h3⟩
    · cases h3
    · have : b = b' := by simp only [Prod.mk.injEq, DataW.lit.injEq, Lit.int.injEq, true_and] at h3; exact Int.ofNat.inj h3.1
      subst this
      exact hrun
  | none =>
    have hh := h0 x
    rw [hp] at hh
    have e : D.atKey (litB x) DataW.nil = .nil := Maps.atKey_of_not_has hh _
    rw [e] at hv
    rcases ptrElem_inv hv with ⟨rfl, _⟩ | ⟨b', rfl, h3⟩
    · exact hrun
    · cases h3

/-- The keys are bytes. -/
theorem keys_bytes {w : World} {m n : Nat} {D : DataW Unit} (h1 : w.ownsMap Try.prog 5 ptrElem m n D) {kl : Lit} (hh : Maps.has D kl = true) : ∃ x : UInt8, kl = litB x := by
  obtain ⟨es, hD, hk⟩ := h1.keysOf
  subst hD
  rw [Maps.has_eq, List.any_eq_true] at hh
  obtain ⟨p, hp, hs⟩ := hh
  obtain ⟨v, hv⟩ := hk p hp
  obtain ⟨x, _, hx⟩ := key_inv hv
  exact ⟨x, by rw [hx] at hs; cases kl <;> simp [Lit.sameKey] at hs; obtain ⟨rfl, rfl⟩ := hs; rfl⟩

/-- Numbers that are all at most N, and no two the same, are no more than those. -/
theorem nodup_le : ∀ (N : Nat) (l : List Nat), l.Pairwise (· ≠ ·) → (∀ x ∈ l, x < N) → l.length ≤ N
  | 0, l, _, h => by
    cases l with
    | nil => exact Nat.le_refl _
    | cons a r => exact absurd (h a (by simp)) (Nat.not_lt_zero a)
  | N + 1, l, hp, h => by
    have h1 := nodup_le N (l.filter (· ≠ N)) (hp.filter _) (fun x hx => by
      obtain ⟨h2, h3⟩ := List.mem_filter.1 hx
      have := h x h2
      have h3 : x ≠ N := by simpa using h3
      omega)
    have h2 : l.length ≤ (l.filter (· ≠ N)).length + 1 := by
      clear h1 h
      induction l with
      | nil => simp
      | cons a r ih =>
        obtain ⟨ha, hr⟩ := List.pairwise_cons.1 hp
        by_cases e : a = N
        · have : r.filter (· ≠ N) = r := List.filter_eq_self.2 fun x hx => by have := ha x hx; subst e; simpa using fun e => this e.symm
          subst e
          rw [List.filter_cons_of_neg (by simp), this]
          simp
        · have := ih hr
          simp [e] at this ⊢
          omega
    omega
theorem size_bytes {w : World} {m n : Nat} {D : DataW Unit} (h1 : w.ownsMap Try.prog 5 ptrElem m n D) : Maps.size D ≤ 256 := by
  obtain ⟨es, rfl, hp, _⟩ := h1.entries keyB
  obtain ⟨es', hD, hk⟩ := h1.keysOf
  obtain rfl : es = es' := by simpa using hD
  show es.length ≤ 256
  have hb : ∀ p ∈ es, ∃ x : UInt8, p.1 = litB x := fun p hp' => by
    obtain ⟨v, hv⟩ := hk p hp'
    obtain ⟨x, _, hx⟩ := key_inv hv
    exact ⟨x, hx⟩
  have := nodup_le 256 (es.map fun p => match p.1 with | .int _ a => a.toNat | _ => 0) (by
    rw [List.pairwise_map]
    refine hp.imp_of_mem fun {p q} hp' hq' hne => ?_
    obtain ⟨x, hx⟩ := hb p hp'
    obtain ⟨y, hy⟩ := hb q hq'
    simp only [hx, hy, Int.toNat_natCast]
    intro e
    exact hne (by rw [hx, hy, UInt8.toNat_inj.1 e])) (fun x hx => by
    obtain ⟨p, hp', rfl⟩ := List.mem_map.1 hx
    obtain ⟨y, hy⟩ := hb p hp'
    have := y.toNat_lt
    simpa [hy] using this)
  rw [List.length_map] at this
  exact this

/-- One byte more. -/
def nset (P : UInt8 → Option Nat) (x : UInt8) (b : Nat) : UInt8 → Option Nat := fun c => if c = x then some b else P c
theorem nset_same (P : UInt8 → Option Nat) (x : UInt8) (b : Nat) : nset P x b x = some b := if_pos rfl
theorem nset_other (P : UInt8 → Option Nat) {x y : UInt8} (b : Nat) (h : y ≠ x) : nset P x b y = P y := if_neg h

theorem HasN.put {w : World} {m : Nat} {P : UInt8 → Option Nat} (h : HasN w m P) (x : UInt8) (b : Nat) :
    ∃ w', (Instr.mapUpdate 107 (.map (some m)) (.int .u8 (x.toNat : Int)) (.pointer (some ⟨b, 0, none⟩))).run Try.prog w = .ok () w' ∧ HasN w' m (nset P x b) ∧ w.grownBy w' (some m) := by
  obtain ⟨D, h1, h2, h3⟩ := h
  have hsz := size_bytes h1
  obtain ⟨w', k1, k2, k3⟩ := h1.update keyB Try.underlying107 (by unfold maxLen; omega) (key_byte x) (ptrElem_mk b)
  have hkl : WideAt.IsKeyLit (litB x) := trivial
  have hne : ∀ y : UInt8, y ≠ x → litB y ≠ litB x := fun y hy e => hy (litB_inj e)
  refine ⟨w', k1, ⟨_, ownsMap_tight k2, fun y => ?_, fun y c hy z => ?_⟩, k3⟩
  · by_cases e : y = x
    · subst e
      rw [Maps.has_put_same h1.isMap hkl, nset_same]; rfl
    · rw [Maps.has_put_other (hne y e), nset_other _ _ e]
      exact h2 y
  · by_cases e : y = x
    · subst e
      rw [nset_same] at hy
      cases hy
      exact Maps.atKey_put_same h1.isMap hkl _ _
    · rw [nset_other _ _ e] at hy
      rw [Maps.atKey_put_other (hne y e)]
      exact h3 y c hy z

/-- A map, or none. -/
def NMap (w : World) (v : Value) (P : UInt8 → Option Nat) : Prop := (v = .map none ∧ P = fun _ => none) ∨ ∃ m, v = .map (some m) ∧ HasN w m P
theorem NMap.shape {w : World} {v : Value} {P : UInt8 → Option Nat} (h : NMap w v P) : ∃ m, v = .map m := by
  rcases h with ⟨rfl, _⟩ | ⟨m, rfl, _⟩
  · exact ⟨_, rfl⟩
  · exact ⟨_, rfl⟩
theorem NMap.below {w w' : World} {v : Value} {P : UInt8 → Option Nat} (h : NMap w v P) (hb : Below w.heap.size w w') : NMap w' v P := by
  rcases h with h | ⟨m, rfl, h⟩
  · exact .inl h
  · exact .inr ⟨m, rfl, h.same (hb.block m h.lt)⟩
theorem NMap.look {w : World} {v : Value} {P : UInt8 → Option Nat} (h : NMap w v P) (x : UInt8) :
    (Instr.lookup 107 v (.int .u8 (x.toNat : Int)) false).run Try.prog w = .ok (ptrV (P x)) w := by
  rcases h with ⟨rfl, rfl⟩ | ⟨m, rfl, h⟩
  · have hk := fun em => keyB.check w em (key_byte x)
    simp [Instr.lookup, run_underlying Try.underlying107, go_sem, zeroN, ptrV, hk, Instr.findKey, Instr.findNow]
  · exact h.look x
end Go.Proofs.Ytmfchlbafpkgaaa
