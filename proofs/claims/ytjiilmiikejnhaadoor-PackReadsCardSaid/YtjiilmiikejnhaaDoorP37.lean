/-
  Plain mathematics: bytes read as the document's answer reads them, up to the first fault; it is what bodyR tells.
-/
import Derived.Test.YtjiilmiikejnhaaDoorP03
set_option linter.unusedVariables false
set_option linter.unusedSimpArgs false
namespace Go.Proofs.YtjiilmiikejnhaaDoor
open Plain

/-- Where it stands, and the fault (code 0 is none). -/
structure IS where
  a : Nat
  c : Nat
  p : Nat
def IS.fail (x : IS) (code at_ : Nat) : IS := if x.c = 0 then ⟨x.a, code, at_⟩ else x
def IS.num (s : List UInt8) (x : IS) (lo hi : Nat) : Nat × IS :=
  if x.c = 0 then (match numR s x.a lo hi with
    | .ok (k, b) => (k, ⟨b, 0, x.p⟩)
    | .error (c, _) => (0, ⟨x.a, c, x.a⟩)) else (0, x)
def IS.char (s : List UInt8) (x : IS) : Nat × IS :=
  if x.c = 0 then (if x.a < s.length then ((s.getD x.a 0).toNat, ⟨x.a + 1, 0, x.p⟩) else (0, ⟨x.a, 3, x.a⟩)) else (0, x)
def magG (s : List UInt8) (x : IS) (i : Nat) : IS := if (x.char s).1 = (magicL.getD i 0).toNat then (x.char s).2 else (x.char s).2.fail 6 i
def top64 : Nat := 18446744073709551615
def arcG (s : List UInt8) (own : Nat) (x : IS) : DArc × IS :=
  (⟨(x.char s).1, ((x.char s).2.num s 0 top64).1, (own : Int) - ((((x.char s).2.num s 0 top64).2.num s 1 own).1 : Nat)⟩, (((x.char s).2.num s 0 top64).2.num s 1 own).2)
def arcsG (s : List UInt8) (own : Nat) : Nat → IS → List DArc → List DArc × IS
  | 0, x, acc => (acc, x)
  | k + 1, x, acc => if x.c = 0 then arcsG s own k (arcG s own x).2 (acc ++ [(arcG s own x).1]) else (acc, x)
def outG (s : List UInt8) (f : Bool) (x : IS) : Nat × IS := if f then x.num s 0 top64 else (0, x)
def stG (s : List UInt8) (own : Nat) (x : IS) : DSt × IS :=
  (⟨(arcsG s own ((x.num s 0 513).1 / 2) (outG s ((x.num s 0 513).1 % 2 == 1) (x.num s 0 513).2).2 []).1, (x.num s 0 513).1 % 2 == 1, (outG s ((x.num s 0 513).1 % 2 == 1) (x.num s 0 513).2).1⟩,
   (arcsG s own ((x.num s 0 513).1 / 2) (outG s ((x.num s 0 513).1 % 2 == 1) (x.num s 0 513).2).2 []).2)
def stsG (s : List UInt8) : Nat → Nat → IS → List DSt → List DSt × IS
  | 0, _, x, acc => (acc, x)
  | k + 1, own, x, acc => if x.c = 0 then stsG s k (own + 1) (stG s own x).2 (acc ++ [(stG s own x).1]) else (acc, x)
def magX (s : List UInt8) : IS := magG s (magG s (magG s ⟨0, 0, 0⟩ 0) 1) 2
def entX (s : List UInt8) : Nat × IS := (magX s).num s 0 100000
def numX (s : List UInt8) : Nat × IS := (entX s).2.num s 1 top64
def stsX (s : List UInt8) : List DSt × IS := stsG s (numX s).1 0 (numX s).2 []
def iniX (s : List UInt8) : Nat × IS := (stsX s).2.num s 0 top64
def endX (s : List UInt8) : IS := if (iniX s).2.a < s.length then (iniX s).2.fail 4 (iniX s).2.a else (iniX s).2

/-- Once there is a fault nothing turns. -/
theorem IS.fail_bad {x : IS} (h : x.c ≠ 0) (c p : Nat) : x.fail c p = x := by unfold IS.fail; rw [if_neg h]
theorem IS.num_bad {s : List UInt8} {x : IS} (h : x.c ≠ 0) (lo hi : Nat) : x.num s lo hi = (0, x) := by unfold IS.num; rw [if_neg h]
theorem IS.char_bad {s : List UInt8} {x : IS} (h : x.c ≠ 0) : x.char s = (0, x) := by unfold IS.char; rw [if_neg h]
theorem magG_bad {s : List UInt8} {x : IS} (h : x.c ≠ 0) (i : Nat) : magG s x i = x := by
  unfold magG
  rw [IS.char_bad h]
  dsimp only
  split
  · rfl
  · exact IS.fail_bad h _ _
theorem arcsG_bad {s : List UInt8} {own : Nat} {x : IS} (h : x.c ≠ 0) (k : Nat) (acc : List DArc) : arcsG s own k x acc = (acc, x) := by
  cases k with
  | zero => rfl
  | succ k => unfold arcsG; rw [if_neg h]
theorem stsG_bad {s : List UInt8} {own : Nat} {x : IS} (h : x.c ≠ 0) (k : Nat) (acc : List DSt) : stsG s k own x acc = (acc, x) := by
  cases k with
  | zero => rfl
  | succ k => unfold stsG; rw [if_neg h]

theorem numR_err {s : List UInt8} {a lo hi : Nat} {e : Nat × Nat} (h : numR s a lo hi = .error e) : e.2 = a ∧ e.1 ≠ 0 := by
  unfold numR at h
  dsimp only at h
  split at h
  · rename_i h0
    cases h
    exact ⟨rfl, h0⟩
  · split at h
    · cases h
      exact ⟨rfl, by show (17 : Nat) ≠ 0; decide⟩
    · cases h

/-- The two readings agree: one goes on, or has this fault. -/
def Agr {α : Type} (r : Rd α) (g : α × IS) : Prop :=
  match r with
  | .ok (v, b) => g = (v, ⟨b, 0, 0⟩)
  | .error (c, p) => g.2.c = c ∧ g.2.p = p ∧ c ≠ 0
theorem num_agr (s : List UInt8) (a lo hi : Nat) : Agr (numR s a lo hi) ((⟨a, 0, 0⟩ : IS).num s lo hi) := by
  unfold IS.num
  rw [if_pos rfl]
  cases h : numR s a lo hi with
  | ok r => rfl
  | error e =>
    obtain ⟨h1, h2⟩ := numR_err h
    obtain ⟨c, p⟩ := e
    simp only at h1
    subst h1
    exact ⟨rfl, rfl, h2⟩
theorem char_agr (s : List UInt8) (a : Nat) : match letR s a with
    | .ok (v, b) => (⟨a, 0, 0⟩ : IS).char s = (v.toNat, ⟨b, 0, 0⟩)
    | .error (c, p) => ((⟨a, 0, 0⟩ : IS).char s).2.c = c ∧ ((⟨a, 0, 0⟩ : IS).char s).2.p = p ∧ c ≠ 0 := by
  unfold IS.char letR
  rw [if_pos rfl]
  by_cases h : a < s.length
  · rw [dif_pos h, if_pos h]
    simp [List.getD, h]
  · rw [dif_neg h, if_neg h]
    exact ⟨rfl, rfl, by decide⟩

theorem arc_agr (s : List UInt8) (own a : Nat) : Agr (arcR s own a) (arcG s own ⟨a, 0, 0⟩) := by
  unfold arcR arcG
  have h1 := char_agr s a
  cases hl : letR s a with
  | error e =>
    rw [hl] at h1
    obtain ⟨c, p⟩ := e
    obtain ⟨e1, e2, e3⟩ := h1
    have hb : ((⟨a, 0, 0⟩ : IS).char s).2.c ≠ 0 := by rw [e1]; exact e3
    rw [IS.num_bad hb, IS.num_bad hb]
    exact ⟨e1, e2, e3⟩
  | ok r =>
    obtain ⟨v, b⟩ := r
    rw [hl] at h1
    dsimp only at h1 ⊢
    rw [h1]
    dsimp only
    have h2 := num_agr s b 0 top64
    change Agr (numR s b 0 18446744073709551615) _ at h2
    cases hn : numR s b 0 18446744073709551615 with
    | error e =>
      rw [hn] at h2
      obtain ⟨c, p⟩ := e
      obtain ⟨e1, e2, e3⟩ := h2
      have hb : ((⟨b, 0, 0⟩ : IS).num s 0 top64).2.c ≠ 0 := by rw [e1]; exact e3
      rw [IS.num_bad hb]
      exact ⟨e1, e2, e3⟩
    | ok r2 =>
      obtain ⟨o, b2⟩ := r2
      rw [hn] at h2
      have h2' : (⟨b, 0, 0⟩ : IS).num s 0 top64 = (o, ⟨b2, 0, 0⟩) := h2
      rw [h2']
      dsimp only
      have h3 := num_agr s b2 1 own
      cases hm : numR s b2 1 own with
      | error e =>
        rw [hm] at h3
        exact h3
      | ok r3 =>
        obtain ⟨t, b3⟩ := r3
        rw [hm] at h3
        have h3' : (⟨b2, 0, 0⟩ : IS).num s 1 own = (t, ⟨b3, 0, 0⟩) := h3
        rw [h3']
        rfl
theorem arcs_agr (s : List UInt8) (own : Nat) : ∀ (k a : Nat) (acc : List DArc), Agr (arcsR s own k a acc) (arcsG s own k ⟨a, 0, 0⟩ acc)
  | 0, a, acc => rfl
  | k + 1, a, acc => by
    unfold arcsR arcsG
    rw [if_pos rfl]
    have h1 := arc_agr s own a
    cases hl : arcR s own a with
    | error e =>
      rw [hl] at h1
      obtain ⟨c, p⟩ := e
      obtain ⟨e1, e2, e3⟩ := h1
      rw [arcsG_bad (by rw [e1]; exact e3)]
      exact ⟨e1, e2, e3⟩
    | ok r =>
      obtain ⟨x, b⟩ := r
      rw [hl] at h1
      have h1' : arcG s own ⟨a, 0, 0⟩ = (x, ⟨b, 0, 0⟩) := h1
      rw [h1']
      exact arcs_agr s own k b (acc ++ [x])
theorem st_agr (s : List UInt8) (own a : Nat) : Agr (stR s own a) (stG s own ⟨a, 0, 0⟩) := by
  unfold stR stG
  have h1 := num_agr s a 0 513
  cases hl : numR s a 0 513 with
  | error e =>
    rw [hl] at h1
    obtain ⟨c, p⟩ := e
    obtain ⟨e1, e2, e3⟩ := h1
    have hb : ((⟨a, 0, 0⟩ : IS).num s 0 513).2.c ≠ 0 := by rw [e1]; exact e3
    have ho : ∀ f, outG s f ((⟨a, 0, 0⟩ : IS).num s 0 513).2 = (0, ((⟨a, 0, 0⟩ : IS).num s 0 513).2) := fun f => by
      unfold outG
      split
      · exact IS.num_bad hb _ _
      · rfl
    rw [ho, arcsG_bad hb]
    exact ⟨e1, e2, e3⟩
  | ok r =>
    obtain ⟨t, b⟩ := r
    rw [hl] at h1
    have h1' : (⟨a, 0, 0⟩ : IS).num s 0 513 = (t, ⟨b, 0, 0⟩) := h1
    rw [h1']
    dsimp only
    have h2 : Agr (if t % 2 = 1 then numR s b 0 18446744073709551615 else .ok (0, b) : Rd Nat) (outG s (t % 2 == 1) ⟨b, 0, 0⟩) := by
      unfold outG
      by_cases ht : t % 2 = 1
      · rw [if_pos ht, if_pos (by simpa using ht)]
        exact num_agr s b 0 top64
      · rw [if_neg ht, if_neg (by simpa using ht)]
        rfl
    cases hn : (if t % 2 = 1 then numR s b 0 18446744073709551615 else .ok (0, b) : Rd Nat) with
    | error e =>
      rw [hn] at h2
      obtain ⟨c, p⟩ := e
      obtain ⟨e1, e2, e3⟩ := h2
      rw [arcsG_bad (by rw [e1]; exact e3)]
      exact ⟨e1, e2, e3⟩
    | ok r2 =>
      obtain ⟨o, b2⟩ := r2
      rw [hn] at h2
      have h2' : outG s (t % 2 == 1) ⟨b, 0, 0⟩ = (o, ⟨b2, 0, 0⟩) := h2
      rw [h2']
      dsimp only
      have h3 := arcs_agr s own (t / 2) b2 []
      cases hm : arcsR s own (t / 2) b2 [] with
      | error e =>
        rw [hm] at h3
        exact h3
      | ok r3 =>
        obtain ⟨l, b3⟩ := r3
        rw [hm] at h3
        have h3' : arcsG s own (t / 2) ⟨b2, 0, 0⟩ [] = (l, ⟨b3, 0, 0⟩) := h3
        rw [h3']
        rfl
theorem sts_agr (s : List UInt8) (many : Nat) (hs : s.length < 9223372036854775808) : ∀ (k f own a : Nat) (acc : List DSt), own + k = many ∨ (k = 0 ∧ many ≤ own) → own ≤ a → a ≤ s.length → s.length - a + 2 ≤ f → Agr (stsR s many f own a acc) (stsG s k own ⟨a, 0, 0⟩ acc)
  | 0, 0, own, a, acc, _, _, _, hf => by omega
  | k, 0, own, a, acc, _, _, _, hf => by omega
  | 0, f + 1, own, a, acc, hk, _, _, _ => by
    unfold stsR stsG
    rw [if_pos (by omega)]
    rfl
  | k + 1, f + 1, own, a, acc, hk, ho, ha, hf => by
    unfold stsR stsG
    rw [if_neg (by omega), if_pos rfl]
    have h1 := st_agr s own a
    cases hl : stR s own a with
    | error e =>
      rw [hl] at h1
      obtain ⟨c, p⟩ := e
      obtain ⟨e1, e2, e3⟩ := h1
      rw [stsG_bad (by rw [e1]; exact e3)]
      exact ⟨e1, e2, e3⟩
    | ok r =>
      obtain ⟨x, b⟩ := r
      obtain ⟨_, _, _, g4, g5⟩ := stR_ok (by omega) hl
      rw [hl] at h1
      have h1' : stG s own ⟨a, 0, 0⟩ = (x, ⟨b, 0, 0⟩) := h1
      rw [h1']
      exact sts_agr s many hs k f (own + 1) b (acc ++ [x]) (by omega) (by omega) g5 (by omega)

theorem mag_agr (s : List UInt8) : (magR s 4 0 = none ∧ magX s = ⟨3, 0, 0⟩) ∨ ∃ c p, magR s 4 0 = some (c, p) ∧ (magX s).c = c ∧ (magX s).p = p ∧ c ≠ 0 := by
  have step : ∀ i, i < 3 → (i < s.length ∧ s.getD i 0 = magicL.getD i 0 ∧ magG s ⟨i, 0, 0⟩ i = ⟨i + 1, 0, 0⟩ ∧ ∀ f, magR s (f + 1) i = magR s f (i + 1)) ∨ ∃ c p, c ≠ 0 ∧ (magG s ⟨i, 0, 0⟩ i).c = c ∧ (magG s ⟨i, 0, 0⟩ i).p = p ∧ ∀ f, magR s (f + 1) i = some (c, p) := by
    intro i hi
    by_cases h : i < s.length
    · have hg : s.getD i 0 = s[i] := by simp [List.getD, h]
      by_cases h2 : s[i] = magicL.getD i 0
      · refine .inl ⟨h, by rw [hg, h2], ?_, fun f => by rw [magR, if_pos hi, dif_pos h, if_pos h2]⟩
        unfold magG IS.char
        rw [if_pos rfl, if_pos h, hg, h2, if_pos rfl]
      · refine .inr ⟨6, i, by decide, ?_, ?_, fun f => by rw [magR, if_pos hi, dif_pos h, if_neg h2]⟩
        all_goals
          unfold magG IS.char
          rw [if_pos rfl, if_pos h, hg, if_neg (fun e => h2 (UInt8.toNat_inj.1 e))]
          rfl
    · refine .inr ⟨3, i, by decide, ?_, ?_, fun f => by rw [magR, if_pos hi, dif_neg h]⟩
      all_goals
        unfold magG IS.char
        rw [if_pos rfl, if_neg h]
        dsimp only
        split
        · rfl
        · rw [IS.fail_bad (by show (3 : Nat) ≠ 0; decide)]
  unfold magX
  rcases step 0 (by omega) with ⟨_, _, g0, m0⟩ | ⟨c, p, h0, h1, h2, h3⟩
  · rw [g0]
    rcases step 1 (by omega) with ⟨_, _, g1, m1⟩ | ⟨c, p, h0, h1, h2, h3⟩
    · rw [g1]
      rcases step 2 (by omega) with ⟨_, _, g2, m2⟩ | ⟨c, p, h0, h1, h2, h3⟩
      · rw [g2]
        exact .inl ⟨by rw [m0, m1, m2, magR, if_neg (by omega)], rfl⟩
      · exact .inr ⟨c, p, by rw [m0, m1, h3], h1, h2, h0⟩
    · have hb : (magG s ⟨1, 0, 0⟩ 1).c ≠ 0 := by rw [h1]; exact h0
      rw [magG_bad hb]
      exact .inr ⟨c, p, by rw [m0, h3], h1, h2, h0⟩
  · have hb : (magG s ⟨0, 0, 0⟩ 0).c ≠ 0 := by rw [h1]; exact h0
    rw [magG_bad hb, magG_bad hb]
    exact .inr ⟨c, p, h3 3, h1, h2, h0⟩

theorem end_bad {s : List UInt8} {c p : Nat} (h1 : (iniX s).2.c = c) (h2 : (iniX s).2.p = p) (h : c ≠ 0) : (endX s).c = c ∧ (endX s).p = p := by
  have hb : (iniX s).2.c ≠ 0 := by rw [h1]; exact h
  unfold endX
  split
  · rw [IS.fail_bad hb]; exact ⟨h1, h2⟩
  · exact ⟨h1, h2⟩
theorem ini_bad {s : List UInt8} {c p : Nat} (h1 : (stsX s).2.c = c) (h2 : (stsX s).2.p = p) (h : c ≠ 0) : (endX s).c = c ∧ (endX s).p = p := by
  have hb : (stsX s).2.c ≠ 0 := by rw [h1]; exact h
  have e : iniX s = (0, (stsX s).2) := by unfold iniX; exact IS.num_bad hb _ _
  have e1 : (iniX s).2 = (stsX s).2 := by rw [e]
  exact end_bad (s := s) (c := c) (p := p) (by rw [e1, h1]) (by rw [e1, h2]) h
theorem num_badX {s : List UInt8} {c p : Nat} (h1 : (numX s).2.c = c) (h2 : (numX s).2.p = p) (h : c ≠ 0) : (endX s).c = c ∧ (endX s).p = p := by
  have hb : (numX s).2.c ≠ 0 := by rw [h1]; exact h
  have e : stsX s = ([], (numX s).2) := by unfold stsX; exact stsG_bad hb _ _
  have e1 : (stsX s).2 = (numX s).2 := by rw [e]
  exact ini_bad (s := s) (c := c) (p := p) (by rw [e1, h1]) (by rw [e1, h2]) h
theorem ent_bad {s : List UInt8} {c p : Nat} (h1 : (entX s).2.c = c) (h2 : (entX s).2.p = p) (h : c ≠ 0) : (endX s).c = c ∧ (endX s).p = p := by
  have hb : (entX s).2.c ≠ 0 := by rw [h1]; exact h
  have e : numX s = (0, (entX s).2) := by unfold numX; exact IS.num_bad hb _ _
  have e1 : (numX s).2 = (entX s).2 := by rw [e]
  exact num_badX (s := s) (c := c) (p := p) (by rw [e1, h1]) (by rw [e1, h2]) h
theorem mag_bad {s : List UInt8} {c p : Nat} (h1 : (magX s).c = c) (h2 : (magX s).p = p) (h : c ≠ 0) : (endX s).c = c ∧ (endX s).p = p := by
  have hb : (magX s).c ≠ 0 := by rw [h1]; exact h
  have e : entX s = (0, magX s) := by unfold entX; exact IS.num_bad hb _ _
  have e1 : (entX s).2 = magX s := by rw [e]
  exact ent_bad (s := s) (c := c) (p := p) (by rw [e1, h1]) (by rw [e1, h2]) h

/-- The document's reading is bodyR's. -/
theorem body_agr (s : List UInt8) (hs : s.length < 9223372036854775808) : match bodyR s with
    | .ok (n, l, i) => (entX s).1 = n ∧ (stsX s).1 = l ∧ (iniX s).1 = i ∧ (endX s).c = 0 ∧ (endX s).p = 0
    | .error (c, p) => (endX s).c = c ∧ (endX s).p = p ∧ c ≠ 0 := by
  unfold bodyR
  rcases mag_agr s with ⟨h1, h2⟩ | ⟨c, p, h1, h2, h3, h4⟩
  · rw [h1]
    dsimp only
    have h3 := num_agr s 3 0 100000
    have e3 : entX s = (⟨3, 0, 0⟩ : IS).num s 0 100000 := by unfold entX; rw [h2]
    rw [← e3] at h3
    cases hn : numR s 3 0 100000 with
    | error e =>
      rw [hn] at h3
      obtain ⟨c, p⟩ := e
      obtain ⟨a1, a2, a3⟩ := h3
      exact ⟨(ent_bad a1 a2 a3).1, (ent_bad a1 a2 a3).2, a3⟩
    | ok r =>
      obtain ⟨n, a1⟩ := r
      rw [hn] at h3
      have h3' : entX s = (n, ⟨a1, 0, 0⟩) := h3
      dsimp only
      have h4 := num_agr s a1 1 top64
      change Agr (numR s a1 1 18446744073709551615) _ at h4
      have e4 : numX s = (⟨a1, 0, 0⟩ : IS).num s 1 top64 := by unfold numX; rw [h3']
      rw [← e4] at h4
      cases hm : numR s a1 1 18446744073709551615 with
      | error e =>
        rw [hm] at h4
        obtain ⟨c, p⟩ := e
        obtain ⟨b1, b2, b3⟩ := h4
        exact ⟨(num_badX b1 b2 b3).1, (num_badX b1 b2 b3).2, b3⟩
      | ok r =>
        obtain ⟨m, a2⟩ := r
        obtain ⟨_, _, _, _, _, g6⟩ := numR_ok hm
        rw [hm] at h4
        have h4' : numX s = (m, ⟨a2, 0, 0⟩) := h4
        dsimp only
        have h5 := sts_agr s m hs m (s.length + 2) 0 a2 [] (.inl (by omega)) (Nat.zero_le _) g6 (by omega)
        have e5 : stsX s = stsG s m 0 ⟨a2, 0, 0⟩ [] := by unfold stsX; rw [h4']
        rw [← e5] at h5
        cases hq : stsR s m (s.length + 2) 0 a2 [] with
        | error e =>
          rw [hq] at h5
          obtain ⟨c, p⟩ := e
          obtain ⟨b1, b2, b3⟩ := h5
          exact ⟨(ini_bad b1 b2 b3).1, (ini_bad b1 b2 b3).2, b3⟩
        | ok r =>
          obtain ⟨l, a3⟩ := r
          rw [hq] at h5
          have h5' : stsX s = (l, ⟨a3, 0, 0⟩) := h5
          dsimp only
          have h6 := num_agr s a3 0 top64
          change Agr (numR s a3 0 18446744073709551615) _ at h6
          have e6 : iniX s = (⟨a3, 0, 0⟩ : IS).num s 0 top64 := by unfold iniX; rw [h5']
          rw [← e6] at h6
          cases hi : numR s a3 0 18446744073709551615 with
          | error e =>
            rw [hi] at h6
            obtain ⟨c, p⟩ := e
            obtain ⟨b1, b2, b3⟩ := h6
            exact ⟨(end_bad b1 b2 b3).1, (end_bad b1 b2 b3).2, b3⟩
          | ok r =>
            obtain ⟨i, a4⟩ := r
            obtain ⟨_, _, _, _, _, q6⟩ := numR_ok hi
            rw [hi] at h6
            have h6' : iniX s = (i, ⟨a4, 0, 0⟩) := h6
            dsimp only
            by_cases he : a4 = s.length
            · rw [if_pos he]
              refine ⟨by rw [h3'], by rw [h5'], by rw [h6'], ?_, ?_⟩
              all_goals
                unfold endX
                rw [h6']
                dsimp only
                rw [if_neg (by omega)]
            · rw [if_neg he]
              refine ⟨?_, ?_, by decide⟩
              all_goals
                unfold endX
                rw [h6']
                dsimp only
                rw [if_pos (by omega)]
                rfl
  · rw [h1]
    exact ⟨(mag_bad h2 h3 h4).1, (mag_bad h2 h3 h4).2, h4⟩
end Go.Proofs.YtjiilmiikejnhaaDoor
