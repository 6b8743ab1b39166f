/-
  What of a disk's files is there behind any restart, in plain words. A map of names with what is kept of them. The law's again: what lasts behind a SyncDir.
-/
import Derived.Test.YtmmoilmfpiclgaaGreatG32
import Derived.Maps.RangeWalk
namespace Go.Proofs.YtmmoilmfpiclgaaGreat
open Go.RowKit Go.Shelf
open Fld (FS Names FAct actsOn foundN foundB findT withT withoutT GoodN Rising mayB nam nameMax FolderS FolderIn ARow textsOf)

/-- A beginning that is there, whatever stays. -/
def Sure (sy : List UInt8) (f : FileS) : Prop := ∀ d q : Int, sy <+: stays f.D f.A d q
/-- A name that is there, whatever lasts. -/
def Lasts (F : FS) (x : List UInt8) (m : Nat) : Prop := ∀ i, (x, m) ∈ actsOn F.L0 (F.A.take i)
/-- The statement's map: what is synced of a name, and whether it may have gone. -/
abbrev Kept3 := List UInt8 → Option (List UInt8 × Bool)
def Inv (F : FS) (file : Nat → FileS) (K : Kept3) : Prop := ∀ x sy, K x = some (sy, false) → ∃ m, Lasts F x m ∧ Sure sy (file m) ∧ sy.length ≤ 10000

theorem Lasts.there {F : FS} {x : List UInt8} {m : Nat} (h : Lasts F x m) : (x, m) ∈ F.there := by
  have := h F.A.length
  rwa [List.take_length] at this
theorem lasts_snoc {L0 : Names} {A : List FAct} {n k : Nat} {z : FAct} {x : List UInt8} {m : Nat} (h : Lasts ⟨L0, A, n⟩ x m) (hz : (x, m) ∈ z.on (actsOn L0 A)) : Lasts ⟨L0, A ++ [z], k⟩ x m := fun i => by
  show (x, m) ∈ actsOn L0 ((A ++ [z]).take i)
  by_cases hi : i ≤ A.length
  · rw [List.take_append_of_le_length hi]
    exact h i
  · rw [List.take_of_length_le (by rw [List.length_append]; simp; omega), Fld.actsOn_snoc]
    exact hz
theorem sure_nil (f : FileS) : Sure [] f := fun _ _ => List.nil_prefix
theorem Sure.reads {sy : List UInt8} {f : FileS} (h : Sure sy f) : sy <+: f.R := by
  have := h f.A.length 0
  rwa [stays_full _ _ _ (by omega)] at this
theorem sure_sync (f : FileS) (k : Nat) : Sure (f.R.take k) ⟨f.R, []⟩ := fun d q => by
  have : stays f.R [] d q = f.R := by
    unfold stays
    simp [reads_nil]
  show f.R.take k <+: stays f.R [] d q
  rw [this]
  exact List.take_prefix _ _
theorem sure_app {sy : List UInt8} {f : FileS} (h : Sure sy f) (b : List UInt8) : Sure sy ⟨f.D, appT f.A b⟩ := by
  unfold appT
  by_cases e : b = []
  · rw [if_pos e]; exact h
  · rw [if_neg e]
    intro d q
    show sy <+: stays f.D (f.A ++ [.app b]) d q
    have hr := h.reads
    by_cases h1 : d < f.A.length
    · have e1 : upTo d (f.A ++ [Do.app b]).length = upTo d f.A.length := by
        rw [List.length_append, List.length_singleton]; unfold upTo; omega
      have hlt : upTo d f.A.length < f.A.length ∨ f.A.length = 0 := by unfold upTo; omega
      rcases hlt with hlt | h0
      · have := h d q
        unfold stays at this ⊢
        rw [e1, List.take_append_of_le_length (by omega), List.drop_append_of_le_length (by omega)]
        cases hd : f.A.drop (upTo d f.A.length) with
        | nil =>
          have := congrArg List.length hd
          rw [List.length_drop] at this
          simp at this
          omega
        | cons y l =>
          rw [hd] at this
          exact this
      · have hA : f.A = [] := List.length_eq_zero_iff.1 h0
        have e2 : upTo d f.A.length = 0 := by unfold upTo; omega
        unfold stays
        rw [e1, e2, hA]
        unfold FileS.R at hr
        rw [hA] at hr
        exact List.IsPrefix.trans hr (List.prefix_append _ _)
    · by_cases h2 : d = f.A.length
      · have e1 : upTo d (f.A ++ [Do.app b]).length = f.A.length := by
          rw [List.length_append, List.length_singleton]; unfold upTo; omega
        unfold stays
        rw [e1, List.take_left' rfl]
        exact List.IsPrefix.trans hr (List.prefix_append _ _)
      · rw [stays_full _ _ _ (by rw [List.length_append, List.length_singleton]; omega), reads_snoc]
        exact List.IsPrefix.trans hr (List.prefix_append _ _)

theorem inv_none (F : FS) (f : Nat → FileS) : Inv F f (fun _ => none) := fun _ _ h => by cases h
theorem Inv.weaker {F : FS} {f : Nat → FileS} {K K' : Kept3} (h : Inv F f K) (hk : ∀ x sy, K' x = some (sy, false) → K x = some (sy, false)) : Inv F f K' := fun x sy hx => h x sy (hk x sy hx)
/-- One name's entry turns. -/
def kput (K : Kept3) (x : List UInt8) (v : List UInt8 × Bool) : Kept3 := fun y => if y = x then some v else K y
theorem kput_same (K : Kept3) (x : List UInt8) (v : List UInt8 × Bool) : kput K x v x = some v := if_pos rfl
theorem kput_other (K : Kept3) {x y : List UInt8} (v : List UInt8 × Bool) (h : y ≠ x) : kput K x v y = K y := if_neg h

theorem inv_create {S : DS} {K : Kept3} (hg : S.fold.good) (h : Inv S.fold S.file K) (s : ByteArray) : Inv (S.create0 s).1.fold (S.create0 s).1.file K := fun x sy hx => by
  obtain ⟨m, h1, h2, h3⟩ := h x sy hx
  unfold DS.create0
  dsimp only
  rcases create_ways S.fold s with e | e | ⟨_, hf, e, et⟩
  · rw [e]; exact ⟨m, h1, h2, h3⟩
  · rw [e]; exact ⟨m, h1, h2, h3⟩
  · rw [e, if_pos rfl]
    have hm := (hg.there.range _ h1.there).2
    refine ⟨m, lasts_snoc (n := S.fold.n) h1 (Fld.mem_with.2 (.inr ⟨h1.there, fun ex => Fld.foundB_false hf _ h1.there ex⟩)), ?_, h3⟩
    rw [upd_other _ _ (by show m ≠ S.fold.n + 1; dsimp only at hm; omega)]
    exact h2
theorem inv_remove {S : DS} {K : Kept3} (h : Inv S.fold S.file K) (s : ByteArray) : Inv (S.remove0 s).1.fold (S.remove0 s).1.file (if (S.remove0 s).2 = 0 then kput K s.data.toList ([], true) else K) := by
  unfold DS.remove0
  dsimp only
  rcases remove_ways S.fold s with ⟨_, e⟩ | ⟨hf, e, et⟩
  · rw [e, if_neg (by simp)]; exact h
  · rw [e, if_pos rfl]
    intro x sy hx
    by_cases ex : x = s.data.toList
    · subst ex
      rw [kput_same] at hx
      cases hx
    · rw [kput_other _ _ ex] at hx
      obtain ⟨m, h1, h2, h3⟩ := h x sy hx
      exact ⟨m, lasts_snoc (n := S.fold.n) h1 (Fld.mem_without.2 ⟨h1.there, ex⟩), h2, h3⟩
theorem inv_rename {S : DS} {K : Kept3} (hg : S.fold.good) (h : Inv S.fold S.file K) (a b : ByteArray) :
    Inv (S.rename0 a b).1.fold (S.rename0 a b).1.file (if (S.rename0 a b).2 = 0 ∧ a ≠ b then kput (kput K a.data.toList ([], true)) b.data.toList ([], true) else K) := by
  unfold DS.rename0
  dsimp only
  rcases rename_ways S.fold a b with e | e | ⟨_, hf, e, et⟩
  · rw [e, if_neg (by simp)]; exact h
  · rw [e, if_neg (by simp)]; exact h
  · rw [e]
    have ha := Fld.foundB_true hf hg.there.rising
    by_cases hab : a = b
    · subst hab
      rw [if_neg (by simp)]
      intro x sy hx
      obtain ⟨m, h1, h2, h3⟩ := h x sy hx
      refine ⟨m, lasts_snoc (n := S.fold.n) h1 (Fld.mem_with.2 ?_), h2, h3⟩
      by_cases ex : x = a.data.toList
      · subst ex
        refine .inl ?_
        have e1 := find_two hg.there.rising h1.there ha
        rw [e1]
      · exact .inr ⟨Fld.mem_without.2 ⟨h1.there, ex⟩, ex⟩
    · rw [if_pos ⟨rfl, hab⟩]
      intro x sy hx
      by_cases eb : x = b.data.toList
      · subst eb
        rw [kput_same] at hx
        cases hx
      · rw [kput_other _ _ eb] at hx
        by_cases ea : x = a.data.toList
        · subst ea
          rw [kput_same] at hx
          cases hx
        · rw [kput_other _ _ ea] at hx
          obtain ⟨m, h1, h2, h3⟩ := h x sy hx
          exact ⟨m, lasts_snoc (n := S.fold.n) h1 (Fld.mem_with.2 (.inr ⟨Fld.mem_without.2 ⟨h1.there, ea⟩, eb⟩)), h2, h3⟩
where
  find_two {L : Names} {k : List UInt8} {m n : Nat} (hr : Rising L) (h1 : (k, m) ∈ L) (h2 : (k, n) ∈ L) : m = n := by
    have e1 := (Fld.find_some hr).2 h1
    have e2 := (Fld.find_some hr).2 h2
    rw [e1] at e2
    exact Option.some.inj e2

/-- A file turns, and what is said of its name. -/
theorem inv_change {S : DS} {K K' : Kept3} (hg : S.fold.good) (h : Inv S.fold S.file K) (s : ByteArray) (g : FileS → FileS × Nat) (ho : ∀ x, x ≠ s.data.toList → K' x = K x)
    (hs : ∀ sy', K' s.data.toList = some (sy', false) → ∃ sy, K s.data.toList = some (sy, false) ∧ (foundB S.fold.there s.data.toList = true → sy.length ≤ 10000 → sy'.length ≤ 10000 ∧ (Sure sy (S.file (foundN S.fold.there s.data.toList)) → Sure sy' (g (S.file (foundN S.fold.there s.data.toList))).1))) :
    Inv (S.change0 s g).1.fold (S.change0 s g).1.file K' := by
  unfold DS.change0
  by_cases hf : foundB S.fold.there s.data.toList = true
  · rw [if_pos hf]
    dsimp only
    have hin := Fld.foundB_true hf hg.there.rising
    intro x sy hx
    by_cases e : x = s.data.toList
    · subst e
      obtain ⟨sy0, k1, k2⟩ := hs sy hx
      obtain ⟨m, h1, h2, h3⟩ := h _ sy0 k1
      have em := inv_rename.find_two hg.there.rising h1.there hin
      subst em
      obtain ⟨k3, k4⟩ := k2 hf h3
      refine ⟨_, h1, ?_, k3⟩
      rw [upd_same]
      exact k4 h2
    · rw [ho x e] at hx
      obtain ⟨m, h1, h2, h3⟩ := h x sy hx
      refine ⟨m, h1, ?_, h3⟩
      rw [upd_other _ _ fun em => e (by subst em; exact congrArg Prod.fst (hg.there.one _ h1.there _ hin rfl))]
      exact h2
  · rw [if_neg hf]
    dsimp only
    intro x sy hx
    by_cases e : x = s.data.toList
    · subst e
      obtain ⟨sy0, k1, _⟩ := hs sy hx
      obtain ⟨m, h1, _⟩ := h _ sy0 k1
      exact absurd rfl (Fld.foundB_false (by simpa using hf) _ h1.there)
    · rw [ho x e] at hx
      exact h x sy hx
theorem inv_append {S : DS} {K : Kept3} (hg : S.fold.good) (h : Inv S.fold S.file K) (s : ByteArray) (room : Nat) (b : List UInt8) : Inv (S.change0 s (appG room b)).1.fold (S.change0 s (appG room b)).1.file K :=
  inv_change hg h s _ (fun _ _ => rfl) fun sy' hx => ⟨sy', hx, fun _ hl => ⟨hl, fun hs => sure_app hs _⟩⟩
theorem inv_truncate {S : DS} {K : Kept3} (hg : S.fold.good) (h : Inv S.fold S.file K) (s : ByteArray) (k : Int) :
    Inv (S.change0 s (cutG k)).1.fold (S.change0 s (cutG k)).1.file (if (S.change0 s (cutG k)).2 = 0 then (fun y => if y = s.data.toList then (K y).map fun v => ([], v.2) else K y) else K) := by
  by_cases e : (S.change0 s (cutG k)).2 = 0
  · rw [if_pos e]
    refine inv_change hg h s _ (fun x hx => if_neg hx) fun sy' hx => ?_
    rw [if_pos rfl] at hx
    cases hk : K s.data.toList with
    | none => rw [hk] at hx; cases hx
    | some v =>
      rw [hk] at hx
      obtain ⟨v1, v2⟩ := v
      cases hx
      exact ⟨v1, rfl, fun _ _ => ⟨Nat.zero_le _, fun _ => sure_nil _⟩⟩
  · rw [if_neg e]
    refine inv_change hg h s _ (fun _ _ => rfl) fun sy' hx => ⟨sy', hx, fun hf hl => ⟨hl, fun hs => ?_⟩⟩
    unfold DS.change0 at e
    rw [if_pos hf] at e
    have he : (cutE (S.file (foundN S.fold.there s.data.toList)).R k).toNat ≠ 0 := e
    unfold cutE at he
    have hc : k < 0 ∨ ((S.file (foundN S.fold.there s.data.toList)).R.length : Int) < k := by
      by_cases hc : k < 0 ∨ ((S.file (foundN S.fold.there s.data.toList)).R.length : Int) < k
      · exact hc
      · rw [if_neg hc] at he; exact absurd rfl he
    show Sure sy' ⟨_, cutT _ _ k⟩
    unfold cutT
    rw [if_neg (by omega)]
    exact hs
theorem inv_sync {S : DS} {K : Kept3} (hg : S.fold.good) (h : Inv S.fold S.file K) (s : ByteArray) :
    Inv (S.change0 s syncG).1.fold (S.change0 s syncG).1.file (if foundB S.fold.there s.data.toList = true then (fun y => if y = s.data.toList then (K y).map fun v => ((S.file (foundN S.fold.there s.data.toList)).R.take 10000, v.2) else K y) else K) := by
  by_cases hf : foundB S.fold.there s.data.toList = true
  · rw [if_pos hf]
    refine inv_change hg h s _ (fun x hx => if_neg hx) fun sy' hx => ?_
    rw [if_pos rfl] at hx
    cases hk : K s.data.toList with
    | none => rw [hk] at hx; cases hx
    | some v =>
      rw [hk] at hx
      obtain ⟨v1, v2⟩ := v
      cases hx
      exact ⟨v1, rfl, fun _ _ => ⟨by rw [List.length_take]; omega, fun _ => sure_sync _ _⟩⟩
  · rw [if_neg hf]
    refine inv_change hg h s _ (fun _ _ => rfl) fun sy' hx => ⟨sy', hx, fun hf' => absurd hf' hf⟩
/-- What lasts behind a SyncDir. -/
def againT (T : Names) (K : Kept3) : Kept3 := fun x => if foundB T x = true then some (match K x with | some (sy, false) => (sy, false) | _ => ([], false)) else none
theorem inv_again {S : DS} {K : Kept3} (hg : S.fold.good) (h : Inv S.fold S.file K) : Inv S.fold.sync S.file (againT S.fold.there K) := fun x sy hx => by
  unfold againT at hx
  by_cases hf : foundB S.fold.there x = true
  · rw [if_pos hf] at hx
    have hin := Fld.foundB_true hf hg.there.rising
    have hL : ∀ m, (x, m) ∈ S.fold.there → Lasts S.fold.sync x m := fun m hm i => by
      show (x, m) ∈ actsOn S.fold.there (([] : List FAct).take i)
      rw [List.take_nil]
      exact hm
    match hk : K x, hx with
    | some (sy0, false), hx =>
      cases hx
      obtain ⟨m, h1, h2, h3⟩ := h x _ hk
      exact ⟨m, hL m h1.there, h2, h3⟩
    | some (sy0, true), hx =>
      cases hx
      exact ⟨_, hL _ hin, sure_nil _, Nat.zero_le _⟩
    | none, hx =>
      cases hx
      exact ⟨_, hL _ hin, sure_nil _, Nat.zero_le _⟩
  · rw [if_neg hf] at hx
    cases hx
/-- Behind a restart it is there, with all that was synced. -/
theorem inv_restart {S : DS} {K : Kept3} (hg : S.fold.good) (h : Inv S.fold S.file K) (l : List Nat) {s : ByteArray} {sy : List UInt8} (hx : K s.data.toList = some (sy, false)) :
    ((S.restart l).readAt s 0 10000).2 = 0 ∧ sy <+: ((S.restart l).readAt s 0 10000).1 := by
  obtain ⟨m, h1, h2, h3⟩ := h _ _ hx
  have hT := hg (Fld.upTo (num l 0 : Nat) S.fold.A.length)
  have hin := h1 (Fld.upTo (num l 0 : Nat) S.fold.A.length)
  have e1 := (Fld.find_some hT.rising).2 hin
  obtain ⟨T, hTT⟩ : ∃ T, actsOn S.fold.L0 (S.fold.A.take (Fld.upTo (num l 0 : Nat) S.fold.A.length)) = T := ⟨_, rfl⟩
  have hth : (S.restart l).fold.there = T := hTT
  rw [hTT] at hT hin e1
  have hfB : foundB (S.restart l).fold.there s.data.toList = true := by rw [hth]; unfold foundB; rw [e1]; rfl
  have hfN : foundN (S.restart l).fold.there s.data.toList = m := by rw [hth]; unfold foundN; rw [e1]; rfl
  obtain ⟨j, hj, hjm⟩ := List.getElem_of_mem hin
  have hnm : (nam T j).2 = m := by rw [Fld.nam_lt hj, hjm]
  have hfile : (S.restart l).file m = restFile T l S.file T.length m := by
    show restFile (S.fold.survive (num l 0)).there l S.file (S.fold.survive (num l 0)).there.length m = _
    have : (S.fold.survive (num l 0)).there = T := hTT
    rw [this]
  have key : ∀ k, j < k → k ≤ T.length → restFile T l S.file k m = (S.file m).stay (num l (2 * j + 1)) (num l (2 * j + 2)) := fun k => by
    induction k with
    | zero => intro h; omega
    | succ k ih =>
      intro h4 h5
      by_cases e : k = j
      · subst e
        have h6 := rest_at T l S.file k
        rw [rest_other T l S.file _ k (by omega) (nums_not hT (by omega)), hnm] at h6
        exact h6
      · show upd (restFile T l S.file k) (nam T k).2 _ m = _
        rw [upd_other _ _ (by have := nam_ne hT (i := j) (k := k) (by omega) (by omega); rw [hnm] at this; exact this)]
        exact ih (by omega) (by omega)
  have hR : sy <+: ((S.restart l).file m).R := by
    rw [hfile, key T.length hj (Nat.le_refl _)]
    exact h2 _ _
  have hd : (S.restart l).down = false := rfl
  unfold DS.readAt
  rw [if_neg (by rw [hd]; simp), if_pos hfB, hfN]
  refine ⟨?_, ?_⟩
  · show readE ((S.restart l).file m).R 0 10000 = 0
    unfold readE
    rw [if_neg (by omega)]
  · show sy <+: readT ((S.restart l).file m).R 0 10000
    unfold readT
    rw [if_neg (by omega)]
    obtain ⟨t, ht⟩ := hR
    rw [← ht]
    refine ⟨t.take (10000 - sy.length), ?_⟩
    simp only [Int.toNat_zero, List.drop_zero]
    show _ = List.take 10000 (sy ++ t)
    rw [List.take_append, List.take_of_length_le h3]
end Go.Proofs.YtmmoilmfpiclgaaGreat
namespace Go.Proofs.YtmmoilmfpiclgaaGreat
open Go.RowKit Go.Shelf
open Fld (FS Names FAct actsOn foundN foundB findT withT withoutT GoodN Rising mayB nam nameMax FolderS FolderIn ARow textsOf)

def keptV (v : List UInt8 × Bool) : Value := .agg #[.string (Fld.strO v.1), .bool v.2]
def keptD (v : List UInt8 × Bool) : DataW Unit := .agg [.lit (.string v.1), .lit (.bool v.2)]
def keptElem (v : Value) : Option (DataW Unit × List MemPlace) :=
  match v with
  | .agg ⟨[.string s, .bool b]⟩ => some (keptD (s.data.toList, b), [])
  | _ => none
theorem keptElem_mk (v : List UInt8 × Bool) : keptElem (keptV v) = some (keptD v, []) := by
  obtain ⟨s, b⟩ := v
  show some (keptD ((Fld.strO s).data.toList, b), []) = _
  rw [Fld.strO_data]
theorem keptElem_inv {v : Value} {z : DataW Unit × List MemPlace} (h : keptElem v = some z) : ∃ x, v = keptV x ∧ z = (keptD x, []) := by
  unfold keptElem at h
  split at h
  · rename_i s b
    cases h
    exact ⟨(s.data.toList, b), by unfold keptV; rw [Fld.strO_of], rfl⟩
  · cases h
theorem keptD_inj {x y : List UInt8 × Bool} (h : keptD x = keptD y) : x = y := by
  obtain ⟨a, b⟩ := x
  obtain ⟨c, d⟩ := y
  unfold keptD at h
  simp only [DataW.agg.injEq, List.cons.injEq, DataW.lit.injEq, Lit.string.injEq, Lit.bool.injEq, and_true] at h
  obtain ⟨rfl, rfl⟩ := h
  rfl
theorem zeroK (w : World) : (zeroValue 49).run Tryz.prog w = .ok (keptV ([], false)) w := by kernel_rfl

/-- Block m is a map of what is kept, of n names at most. -/
def HasK (w : World) (m n : Nat) (K : Kept3) : Prop :=
  ∃ D : DataW Unit, w.ownsMap Tryz.prog 9 keptElem m n D ∧ (∀ x, Maps.has D (.string x) = (K x).isSome) ∧ (∀ x v, K x = some v → ∀ z, D.atKey (.string x) z = keptD v) ∧ ∀ kl, Maps.has D kl = true → ∃ x, kl = .string x
theorem hasK_made (w : World) : HasK (w.alloc (.map #[] 0)) w.heap.size 0 (fun _ => none) := ⟨.map [], World.ownsMap_made _ _ _ _, fun _ => rfl, (fun x v h => by cases h), (fun kl (h : Maps.has (DataW.map ([] : List (Lit × DataW Unit))) kl = true) => Bool.noConfusion h)⟩
theorem HasK.same {w w' : World} {m n : Nat} {K : Kept3} (h : HasK w m n K) (he : w'.heap[m]? = w.heap[m]?) : HasK w' m n K := by
  obtain ⟨D, ⟨es, clock, hb, F, hs, hD⟩, h2⟩ := h
  exact ⟨D, ⟨es, clock, he.trans hb, F, hs, hD⟩, h2⟩
theorem HasK.lt {w : World} {m n : Nat} {K : Kept3} (h : HasK w m n K) : m < w.heap.size := by
  obtain ⟨D, h1, _⟩ := h
  exact h1.lt
theorem HasK.look {w : World} {m n : Nat} {K : Kept3} (h : HasK w m n K) (s : ByteArray) (hs : s.size ≤ nameMax) :
    (Instr.lookup 44 (.map (some m)) (.string s) true).run Tryz.prog w = .ok (.tuple #[keptV ((K s.data.toList).getD ([], false)), .bool (K s.data.toList).isSome]) w := by
  obtain ⟨D, h1, h2, h3, -⟩ := h
  obtain ⟨v, ps, hrun, hv⟩ := h1.look_ok Fld.keyS Tryz.underlying44 (zeroK w) (keptElem_mk ([], false)) (Fld.key_is s hs)
  obtain ⟨x, rfl, hx⟩ := keptElem_inv hv
  have hx := congrArg Prod.fst hx
  simp only at hx
  rw [hrun, h2]
  cases hk : K s.data.toList with
  | none =>
    rw [Maps.atKey_of_not_has (by rw [h2, hk]; rfl)] at hx
    rw [← keptD_inj hx]
    rfl
  | some v =>
    rw [h3 _ _ hk] at hx
    rw [← keptD_inj hx]
    rfl
theorem HasK.put {w : World} {m n : Nat} {K : Kept3} (h : HasK w m n K) (hn : n ≤ 1000000) (s : ByteArray) (hs : s.size ≤ nameMax) (v : List UInt8 × Bool) :
    ∃ w', (Instr.mapUpdate 44 (.map (some m)) (.string s) (keptV v)).run Tryz.prog w = .ok () w' ∧ HasK w' m (n + 1) (kput K s.data.toList v) ∧ w.grownBy w' (some m) := by
  obtain ⟨D, h1, h2, h3, h4⟩ := h
  obtain ⟨w', k1, k2, k3⟩ := h1.store Fld.keyS Tryz.underlying44 (by unfold maxLen; omega) (Fld.key_is s hs) (keptElem_mk v)
  have hkl : WideAt.IsKeyLit (Lit.string s.data.toList) := trivial
  have hne : ∀ y, y ≠ s.data.toList → (Lit.string y) ≠ .string s.data.toList := fun y hy e => by injection e with e; exact hy e
  refine ⟨w', k1, ⟨_, k2, fun y => ?_, fun y c hy z => ?_, fun kl hkl' => ?_⟩, k3.grown⟩
  · by_cases e : y = s.data.toList
    · subst e
      rw [Maps.has_put_same h1.isMap hkl, kput_same]; rfl
    · rw [Maps.has_put_other (hne y e), kput_other _ _ e]
      exact h2 y
  · by_cases e : y = s.data.toList
    · subst e
      rw [kput_same] at hy
      cases hy
      exact Maps.atKey_put_same h1.isMap hkl _ _
    · rw [kput_other _ _ e] at hy
      rw [Maps.atKey_put_other (hne y e)]
      exact h3 y c hy z
  · by_cases e : kl = .string s.data.toList
    · exact ⟨_, e⟩
    · rw [Maps.has_put_other e] at hkl'
      exact h4 kl hkl'

section
variable (w : World) {ops : Array Oper} {rest : List Oper} {o : Oper} {a : Act} {Q : Exit → Act → World → Prop}
theorem wpList_put_kept (hg : o.guard = none) (mm x v : Operand) (hop : o.op = Op.mapUpdate 44 mm x v) (m n : Nat) (K : Kept3) (s : ByteArray) (vv : List UInt8 × Bool)
    (hm : a.eval mm = .map (some m)) (hx : a.eval x = .string s) (hv : a.eval v = keptV vv) (h : HasK w m n K) (hn : n ≤ 1000000) (hs : s.size ≤ nameMax)
    (hK : ∀ w', HasK w' m (n + 1) (kput K s.data.toList vv) → w.grownBy w' (some m) → wpList Tryz.prog ops Q rest (a.put o.dst undef) w') : wpList Tryz.prog ops Q (o :: rest) a w := by
  refine wpList_plain hg fun K' hK' => ?_
  obtain ⟨w', hrun, r1, r2⟩ := h.put hn s hs vv
  unfold Oper.wp
  simp [execOp, hop, hm, hx, hv, hrun, Result.andThen]
  exact hK' _ _ (hK w' r1 r2)
end

/-- A range over it under way. -/
structure KeptR (w : World) (m r N : Nat) (K : Kept3) (D : DataW Unit) (left : Lit → Bool) (cnt : Nat) : Prop where
  it : w.ranges Tryz.prog 9 keptElem m r N D left cnt
  sub : ∀ kl, left kl = true → Maps.has D kl = true
  has : ∀ x, Maps.has D (.string x) = (K x).isSome
  at' : ∀ x v, K x = some v → ∀ z, D.atKey (.string x) z = keptD v
  keys : ∀ kl, Maps.has D kl = true → ∃ x, kl = .string x
theorem KeptR.kept {w w' : World} {m r N cnt : Nat} {K : Kept3} {D : DataW Unit} {left : Lit → Bool} (h : KeptR w m r N K D left cnt) (hm : w'.heap[m]? = w.heap[m]?) (hr : w'.heap[r]? = w.heap[r]?) : KeptR w' m r N K D left cnt := by
  obtain ⟨es, clock, since, seen, c0, hb, F, hs, hD, hr', rest⟩ := h.it
  exact { h with it := ⟨es, clock, since, seen, c0, hm.trans hb, F, hs, hD, hr.trans hr', rest⟩ }
theorem wpList_range_kept {w : World} {ops : Array Oper} {rest : List Oper} {o : Oper} {a : Act} {Q : Exit → Act → World → Prop} (hg : o.guard = none) (x : Operand) (hop : o.op = Op.range 44 x) (m n : Nat) (K : Kept3) (hm : a.eval x = .map (some m)) (h : HasK w m n K)
    (hK : ∀ w' D cnt, KeptR w' m w.heap.size n K D (Maps.has D) cnt → w.grownBy w' none → w'.heap.size = w.heap.size + 1 → wpList Tryz.prog ops Q rest (a.put o.dst (.pointer (some ⟨w.heap.size, 0, none⟩))) w') :
    wpList Tryz.prog ops Q (o :: rest) a w := by
  obtain ⟨D, h1, h2, h3, h4⟩ := h
  exact wpList_range_own w hg x _ hop _ _ Fld.keyS Tryz.underlying44 _ m _ D hm h1 fun w' r1 r2 r3 => hK w' D _ ⟨r1, fun _ h => h, h2, h3, h4⟩ r2 r3
set_option maxRecDepth 100000 in
theorem wpList_next_kept {w : World} {ops : Array Oper} {rest : List Oper} {o : Oper} {a : Act} {Q : Exit → Act → World → Prop} (hg : o.guard = none) (it : Operand) (hop : o.op = Op.next it false) (m r N : Nat) (K : Kept3) (D : DataW Unit) (left : Lit → Bool) (cnt : Nat) (hit : a.eval it = .pointer (some ⟨r, 0, none⟩))
    (h : KeptR w m r N K D left cnt) (hDone : (∀ kl, left kl = false) → wpList Tryz.prog ops Q rest (a.put o.dst (.tuple #[.bool false])) w)
    (hMore : ∀ (s : ByteArray) (v : List UInt8 × Bool) (w' : World) (cnt' : Nat), s.size ≤ maxLen → K s.data.toList = some v → KeptR w' m r N K D (fun z => left z && !z.sameKey (.string s.data.toList)) cnt' → cnt' < cnt → w.grownBy w' (some r) → w'.heap.size = w.heap.size →
      (Instr.entry (.pointer (some ⟨r, 0, none⟩))).run Tryz.prog w' = .ok (.tuple #[.string s, keptV v]) w' → wpList Tryz.prog ops Q rest (a.put o.dst (.tuple #[.bool true, .string s, keptV v])) w') :
    wpList Tryz.prog ops Q (o :: rest) a w := by
  refine wpList_next_ranges (α := ByteArray) (β := List UInt8 × Bool) w hg it hop _ Fld.keyS keptElem Value.string keptV (fun key kl hkey => ?_) (fun v y hv => ?_) m r N D left cnt hit h.it (fun _ hl => hDone hl) fun x c kl y w' cnt' hkey hlk hv hat hrg hlt hgr hsz hen => ?_
  · cases key <;> simp [keyOf, Tryz.underlying9, mapKey] at hkey
    exact ⟨_, rfl⟩
  · obtain ⟨x, rfl, _⟩ := keptElem_inv hv
    exact ⟨x, rfl⟩
  · have hkk : kl = .string x.data.toList ∧ x.size ≤ maxLen := by
      simp [keyOf, Tryz.underlying9, mapKey] at hkey
      exact ⟨hkey.2.symm, hkey.1⟩
    obtain ⟨rfl, hsx⟩ := hkk
    have hP : (K x.data.toList).isSome = true := by rw [← h.has]; exact h.sub _ hlk
    obtain ⟨v, hb⟩ := Option.isSome_iff_exists.1 hP
    have e1 := h.at' _ v hb .nil
    rw [hat] at e1
    have hc : c = v := by
      rw [keptElem_mk] at hv
      cases hv
      exact keptD_inj e1
    subst hc
    exact hMore x c w' cnt' hsx hb ⟨hrg, fun kl' hk => h.sub kl' (by simp only [Bool.and_eq_true] at hk; exact hk.1), h.has, h.at', h.keys⟩ hlt hgr hsz hen
end Go.Proofs.YtmmoilmfpiclgaaGreat
namespace Go.Proofs.YtmmoilmfpiclgaaGreat
open Go.RowKit Go.Shelf
open Fld (FS Names FAct actsOn foundN foundB findT withT withoutT GoodN Rising mayB nam nameMax FolderS FolderIn ARow textsOf)

def againO : Option (List UInt8 × Bool) → List UInt8 × Bool := fun o => match o with | some (sy, false) => (sy, false) | _ => ([], false)
def againV (K : Kept3) (x : List UInt8) : List UInt8 × Bool := againO (K x)
theorem againT_eq (T : Names) (K : Kept3) (x : List UInt8) : againT T K x = if foundB T x = true then some (againV K x) else none := rfl
theorem foundB_mem {T : Names} {x : List UInt8} : foundB T x = true ↔ ∃ p ∈ T, p.1 = x := by
  unfold foundB findT
  rw [Option.isSome_map, List.find?_isSome]
  simp
theorem againT_nil (K : Kept3) : againT [] K = fun _ => none := rfl
theorem againT_snoc {T : Names} {k : Nat} (hk : k < T.length) (K : Kept3) : againT (T.take (k + 1)) K = kput (againT (T.take k) K) (nam T k).1 (againV K (nam T k).1) := funext fun x => by
  have e : T.take (k + 1) = T.take k ++ [nam T k] := by rw [List.take_succ_eq_append_getElem hk, ← Fld.nam_lt hk]
  by_cases h : x = (nam T k).1
  · subst h
    rw [kput_same, againT_eq, if_pos]
    rw [foundB_mem, e]
    exact ⟨nam T k, by simp, rfl⟩
  · rw [kput_other _ _ h, againT_eq, againT_eq]
    have : foundB (T.take (k + 1)) x = foundB (T.take k) x := by
      rw [Bool.eq_iff_iff, foundB_mem, foundB_mem, e]
      constructor
      · rintro ⟨p, hp, rfl⟩
        rcases List.mem_append.1 hp with hp | hp
        · exact ⟨p, hp, rfl⟩
        · simp at hp; subst hp; exact absurd rfl h
      · rintro ⟨p, hp, rfl⟩
        exact ⟨p, by simp [hp], rfl⟩
    rw [this]

theorem kept_drewn {w w1 w7 : World} {b : Nat} (h1 : Below w.heap.size w w1) (g : w1.drew.grownBy w7 (some b)) : Kept (fun x => x = b) w w7 := by
  have k1 : Kept (fun x => x = b) w w1 := Kept.below h1
  have k2 : Kept (fun x => x = b) w1 w1.drew := ⟨rfl, rfl, rfl, Nat.le_refl _, fun _ _ _ => rfl⟩
  have k3 : Kept (fun x => x = b) w1.drew w7 := Kept.grown g fun x hx => (Option.some.inj hx).symm
  exact (k1.trans k2 fun x hx => .inl hx).trans k3 fun x hx => .inl hx

set_option maxHeartbeats 4000000 in
set_option maxRecDepth 100000 in
theorem again_any {w : World} {p mk n : Nat} {S : DS} {v : DV} {K : Kept3} (h : DiskP w p S v) (hd : S.down = false) (hf : S.Fit) (hm : HasK w mk n K) :
    Calls Tryz.prog 25 #[.pointer (some ⟨p, 0, none⟩), .map (some mk)] w fun e w' => ∃ m', e = .returned (.map (some m')) ∧ HasK w' m' S.fold.there.length (againT S.fold.there K) ∧ w.heap.size ≤ m' ∧ Below w.heap.size w w' := by
  have hmm := @run_makeMap Tryz.prog
  have b1 : Below w.heap.size w (w.alloc (.map #[] 0)) := (Below.refl _ w).alloc (Nat.le_refl _) _
  have hk1 := hasK_made w
  have QL := Lib.hid (disk_list (h.below b1) (Nat.le_trans hf.weight (by decide)))
  obtain ⟨w1, hw1⟩ : ∃ w1, w.alloc (.map #[] 0) = w1 := ⟨_, rfl⟩
  rw [hw1] at b1 hk1 QL
  have hT := h.good.there
  have hTl : S.fold.there.length ≤ 100000 := Nat.le_trans (Fld.FS.there_length S.fold) (Nat.le_trans hf.weight (by decide))
  have hli : S.listed = textsOf S.fold.there := by unfold DS.listed; rw [hd]; rfl
  rw [hli] at QL
  obtain ⟨T, hTT⟩ : ∃ T, S.fold.there = T := ⟨_, rfl⟩
  rw [hTT] at QL hT hTl ⊢
  have HM := Lib.hid hm
  have HSH := Lib.hid hT.short
  obtain ⟨m0, hm0⟩ : ∃ m0, w.heap.size = m0 := ⟨_, rfl⟩
  rw [hm0] at hk1
  have HK1 := Lib.hid hk1
  have HB1 := Lib.hid b1
  have hz1 : w1.heap.size = w.heap.size + 1 := by rw [← hw1]; simp
  clear h hd hf hm hk1 b1 hli hT
  go_enter Tryz.func25, Tryz.ntmps25
  go_wp2_with (go_at_call 33; (with_reducible refine QL.out.mono ?_); rintro e w2 ⟨r, rfl, r2, b2⟩; obtain ⟨ad, c, rfl⟩ := ownsSlice r2; have R2 := Lib.hid r2; have B2 := Lib.hid b2; clear r2 b2)
  have hlen : (textsOf T).length = T.length := by unfold textsOf; simp
  rw [hlen]
  have hz2 := B2.out.size
  have HKM := Lib.hid hm0
  go_loopw [7, 8, 9] (fun s7 _ _ wr => ∃ k : Nat, k ≤ T.length ∧ s7 = .int .i64 k ∧ HasK wr m0 k (againT (T.take k) K) ∧ Kept (fun g => g = m0) w2 wr) (fun s7 _ _ _ => T.length - (intOf s7).toNat)
  case atStart => exact ⟨0, Nat.zero_le _, rfl, by rw [List.take_zero, againT_nil]; exact HK1.out.same (B2.out.block _ HK1.out.lt), Kept.refl _ _⟩
  case round =>
    obtain ⟨k, hk, rfl, hK, hkw⟩ := hrel
    have HK := Lib.hid hK
    have HKW := Lib.hid hkw
    clear hK hkw
    by_cases hlt : k < T.length
    · have e1 : decide ((k : Int) < (T.length : Int)) = true := decide_eq_true (by omega)
      have e1' : decide (k < T.length) = true := decide_eq_true hlt
      obtain ⟨b, o, hbo, hbb, _, hc⟩ := row_text R2.out rfl k hlt
      obtain ⟨x, hx⟩ : ∃ x, Fld.strO (nam T k).1 = x := ⟨_, rfl⟩
      have hxd : x.data.toList = (nam T k).1 := by rw [← hx, Fld.strO_data]
      have hxs : x.size ≤ nameMax := by
        rw [← hx, Fld.strO_size]
        exact Nat.le_trans (HSH.out _ (Fld.nam_mem hlt)) (by decide)
      rw [hx] at hc
      have hbl : b < w2.heap.size := block_lt_of_cell hc
      have hc' : wr.cell? ⟨b, o + k, none⟩ = some (.string x) := by
        rw [← hc]
        simp only [World.cell?, HKW.out.block b hbl (fun e => by omega)]
      have hmk : wr.heap[mk]? = w.heap[mk]? := (HKW.out.block mk (by have := HM.out.lt; omega) (fun e => by have := HM.out.lt; omega)).trans ((B2.out.block mk (by have := HM.out.lt; omega)).trans (by rw [← hw1]; exact heap_alloc_old w _ HM.out.lt))
      have hlk := (HM.out.same hmk).look x hxs
      have HN := Lib.hid (againT_snoc hlt K)
      rw [← hxd] at HN
      subst hbo
      clear hc hbl hmk hx hxd
      obtain ⟨kv, hkv⟩ : ∃ kv, K x.data.toList = kv := ⟨_, rfl⟩
      have hav : againV K x.data.toList = againO kv := congrArg againO hkv
      rw [hkv] at hlk
      have HP := Lib.hid (fun W (hW : Kept (fun g => g = m0) wr W) (hm : W.heap[m0]? = wr.heap[m0]?) (u : List UInt8 × Bool) => (HK.out.same hm).put (by omega) x hxs u)
      have hm0l : m0 < wr.heap.size := HK.out.lt
      have hbl' : b < wr.heap.size := block_lt_of_cell hc'
      have hbl2 : ¬ b = wr.heap.size := by omega
      rcases kv with _ | ⟨sy, _ | _⟩
      all_goals
        simp only [Option.getD_none, Option.getD_some, Option.isSome_none, Option.isSome_some, keptV] at hlk
      · go_upto_region 9 with fail
        obtain ⟨w7, e7, h7, g7⟩ := HP.out ((wr.alloc (.cells #[.string ⟨#[]⟩, .bool false] 49)).drew) ⟨rfl, rfl, rfl, by show _ ≤ (wr.alloc _).heap.size; simp, fun g hg _ => heap_alloc_old wr _ hg⟩ (heap_alloc_old wr _ hm0l) ([], false)
        have e7 : (Instr.mapUpdate 44 (.map (some m0)) (.string x) (.agg #[.string ⟨#[]⟩, .bool false])).run Tryz.prog ((wr.alloc (.cells #[.string ⟨#[]⟩, .bool false] 49)).drew) = .ok () w7 := e7
        have H7 := Lib.hid h7
        have G7 := Lib.hid g7
        clear h7 g7
        go_region
        go_wp2
        refine ⟨⟨k + 1, by omega, by go_num, ?_, HKW.out.trans (kept_drewn ((Below.refl _ wr).alloc (Nat.le_refl _) _) G7.out) fun g hg => .inl hg⟩, by simp [intOf]; omega⟩
        rw [HN.out, hav]
        exact H7.out
      · go_upto_region 9 with fail
        obtain ⟨w7, e7, h7, g7⟩ := HP.out ((wr.alloc (.cells #[.string (Fld.strO sy), .bool false] 49)).drew) ⟨rfl, rfl, rfl, by show _ ≤ (wr.alloc _).heap.size; simp, fun g hg _ => heap_alloc_old wr _ hg⟩ (heap_alloc_old wr _ hm0l) (sy, false)
        have e7 : (Instr.mapUpdate 44 (.map (some m0)) (.string x) (.agg #[.string (Fld.strO sy), .bool false])).run Tryz.prog ((wr.alloc (.cells #[.string (Fld.strO sy), .bool false] 49)).drew) = .ok () w7 := e7
        have H7 := Lib.hid h7
        have G7 := Lib.hid g7
        clear h7 g7
        go_region
        go_wp2
        refine ⟨⟨k + 1, by omega, by go_num, ?_, HKW.out.trans (kept_drewn ((Below.refl _ wr).alloc (Nat.le_refl _) _) G7.out) fun g hg => .inl hg⟩, by simp [intOf]; omega⟩
        rw [HN.out, hav]
        exact H7.out
      · go_upto_region 9 with fail
        obtain ⟨w7, e7, h7, g7⟩ := HP.out ((wr.alloc (.cells #[.string ⟨#[]⟩, .bool false] 49)).drew) ⟨rfl, rfl, rfl, by show _ ≤ (wr.alloc _).heap.size; simp, fun g hg _ => heap_alloc_old wr _ hg⟩ (heap_alloc_old wr _ hm0l) ([], false)
        have e7 : (Instr.mapUpdate 44 (.map (some m0)) (.string x) (.agg #[.string ⟨#[]⟩, .bool false])).run Tryz.prog ((wr.alloc (.cells #[.string ⟨#[]⟩, .bool false] 49)).drew) = .ok () w7 := e7
        have H7 := Lib.hid h7
        have G7 := Lib.hid g7
        clear h7 g7
        go_region
        go_wp2
        refine ⟨⟨k + 1, by omega, by go_num, ?_, HKW.out.trans (kept_drewn ((Below.refl _ wr).alloc (Nat.le_refl _) _) G7.out) fun g hg => .inl hg⟩, by simp [intOf]; omega⟩
        rw [HN.out, hav]
        exact H7.out
    · have e1 : decide ((k : Int) < (T.length : Int)) = false := decide_eq_false (by omega)
      have e1' : decide (k < T.length) = false := decide_eq_false hlt
      obtain rfl : k = T.length := by omega
      go_wp2_with fail
      go_ret
      have hk' := HK.out
      rw [List.take_length] at hk'
      exact ⟨m0, rfl, hk', by omega, (Below.next (by rw [← hw1]; exact (Below.refl _ w).alloc (Nat.le_refl _) _) B2.out).trans (HKW.out.to (by omega) fun g hg => by omega)⟩
end Go.Proofs.YtmmoilmfpiclgaaGreat
