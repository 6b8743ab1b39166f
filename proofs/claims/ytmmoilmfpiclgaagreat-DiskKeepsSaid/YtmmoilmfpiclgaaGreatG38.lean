/-
  The statements' acts: a small number; rows of them, and of numbers, that came in. Flocks beside several blocks of the walk's own; what the acts leave of what is kept. Flocks beside blocks of the walk's own: a copy, the files, a restart. DiskKeeps: whatever is done, what was made sure stays: the walk.
-/
import Derived.Test.YtmmoilmfpiclgaaGreatG33
import Derived.Test.YtmmoilmfpiclgaaGreatG37
import Derived.Test.YtmmoilmfpiclgaaGreatG32
import Derived.Deep.CutRange
namespace Go.Proofs.YtmmoilmfpiclgaaGreat
open Go.RowKit Go.Shelf

/-- The number that an act means. -/
def smallD (n : Int) : Int := if n.tmod 7 = 6 then n else (n.tmod 32 + 32).tmod 32 - 1
theorem smallD_small {n : Int} (h1 : -32768 ≤ n) (h2 : n ≤ 32767) : -32768 ≤ smallD n ∧ smallD n ≤ 32767 := by
  unfold smallD
  split
  · exact ⟨h1, h2⟩
  · have h3 : -32 < n.tmod 32 ∧ n.tmod 32 < 32 := by
      constructor
      · have := Int.lt_tmod_of_pos n (b := 32) (by omega); omega
      · exact Int.tmod_lt_of_pos n (by omega)
    have h4 : (n.tmod 32 + 32).tmod 32 = (n.tmod 32 + 32) % 32 := Int.tmod_eq_emod_of_nonneg (by omega)
    rw [h4]
    omega

set_option maxHeartbeats 2000000 in
set_option maxRecDepth 100000 in
theorem small_any (d : Deed) (hl : ∃ ad n c, d.l = .slice ad n c) (h1 : -32768 ≤ d.n) (h2 : d.n ≤ 32767) (w : World) : Calls Tryz.prog 21 #[.agg d.vals] w fun e w' => e = .returned (.int .i64 (smallD d.n)) ∧ Below w.heap.size w w' := by
  obtain ⟨what, a, b, raw, n, lv⟩ := d
  obtain ⟨ad, ln, c, rfl⟩ := hl
  unfold Deed.vals
  dsimp only at h1 h2 ⊢
  have HB := Lib.hid (fun o => ((Below.refl _ w).alloc (Nat.le_refl _) o : Below w.heap.size w (w.alloc o)))
  obtain ⟨r, hr⟩ : ∃ r, smallD n = r := ⟨_, rfl⟩
  rw [hr]
  unfold smallD at hr
  obtain ⟨m7, hm7⟩ : ∃ m7, n.tmod 7 = m7 := ⟨_, rfl⟩
  obtain ⟨m32, hm32⟩ : ∃ m32, n.tmod 32 = m32 := ⟨_, rfl⟩
  have b32 : -32 < m32 ∧ m32 < 32 := by
    rw [← hm32]
    constructor
    · have := Int.lt_tmod_of_pos n (b := 32) (by omega); omega
    · exact Int.tmod_lt_of_pos n (by omega)
  obtain ⟨q, hq⟩ : ∃ q, m32 + 32 = q := ⟨_, rfl⟩
  have w1 : wrap64 (m32 + 32) = q := by unfold wrap64; omega
  have w1' : IntKind.i64.wrap (m32 + 32) = q := by rw [hq]; exact IntWalk.i64_in _ (by omega)
  obtain ⟨t, ht⟩ : ∃ t, q.tmod 32 = t := ⟨_, rfl⟩
  have ht2 : 0 ≤ t ∧ t < 32 := by
    rw [← ht, Int.tmod_eq_emod_of_nonneg (by omega)]
    omega
  obtain ⟨u, hu⟩ : ∃ u, t - 1 = u := ⟨_, rfl⟩
  have w2 : wrap64 (t - 1) = u := by unfold wrap64; omega
  have w2' : IntKind.i64.wrap (t - 1) = u := by rw [hu]; exact IntWalk.i64_in _ (by omega)
  rw [hm7, hm32, hq, ht, hu] at hr
  clear hq hu ht2 b32
  by_cases h : m7 = 6
  · rw [if_pos h] at hr
    subst hr
    have e1 : (m7 == 6) = true := by rw [h]; rfl
    have e2 : decide (m7 = 6) = true := decide_eq_true h
    clear h w1 w1' w2 w2' hm32 ht
    go_enter Tryz.func21, Tryz.ntmps21
    go_wp2
    go_ret
    exact ⟨rfl, HB.out _⟩
  · rw [if_neg h] at hr
    subst hr
    have e1 : (m7 == 6) = false := by simpa using h
    have e2 : decide (m7 = 6) = false := decide_eq_false h
    clear h
    go_enter Tryz.func21, Tryz.ntmps21
    go_wp2
    go_ret
    exact ⟨rfl, HB.out _⟩
end Go.Proofs.YtmmoilmfpiclgaaGreat
namespace Go.Proofs.YtmmoilmfpiclgaaGreat
open Go.RowKit Go.Shelf
open Fld (FS Names FAct actsOn foundN foundB findT withT withoutT GoodN Rising mayB nam nameMax FolderS FolderIn ARow textsOf)

def FlockL (w0 W : World) (n : Nat) (L : List (Nat × DS)) (bs : List (Nat × Obj)) : Prop :=
  ∃ vs, FlockV w0 W n L vs ∧ ∀ x ∈ bs, W.heap[x.1]? = some x.2 ∧ (∀ i (h : i < vs.length), ¬ (All vs[i].M x.1 ∨ All vs[i].I x.1)) ∧ w0.heap.size ≤ x.1
theorem Flock.with {w0 W : World} {n : Nat} {L : List (Nat × DS)} (h : Flock w0 W n L) : FlockL w0 W n L [] := by
  obtain ⟨vs, h⟩ := h
  exact ⟨vs, h, fun x hx => by cases hx⟩
section
variable {w0 W W' : World} {n : Nat} {L : List (Nat × DS)} {bs : List (Nat × Obj)} (h : FlockL w0 W n L bs)
include h
theorem FlockL.flock : Flock w0 W n L := by
  obtain ⟨vs, h1, _⟩ := h
  exact ⟨vs, h1⟩
theorem FlockL.at {x : Nat × Obj} (hx : x ∈ bs) : W.heap[x.1]? = some x.2 := by
  obtain ⟨vs, _, h2⟩ := h
  exact (h2 x hx).1
theorem FlockL.next (hb : Below W.heap.size W W') : FlockL w0 W' n L bs := by
  obtain ⟨vs, h1, h2⟩ := h
  exact ⟨vs, h1.next hb, fun x hx => ⟨(hb.block x.1 (Array.getElem?_eq_some_iff.1 (h2 x hx).1).1).trans (h2 x hx).1, (h2 x hx).2⟩⟩
theorem FlockL.less {bs' : List (Nat × Obj)} (hs : ∀ x ∈ bs', x ∈ bs) : FlockL w0 W n L bs' := by
  obtain ⟨vs, h1, h2⟩ := h
  exact ⟨vs, h1, fun x hx => h2 x (hs x hx)⟩
/-- A block that is new since is the walk's own. -/
theorem FlockL.own (hb : Below W.heap.size W W') {b : Nat} {o : Obj} (ho : W'.heap[b]? = some o) (hn : W.heap.size ≤ b) : FlockL w0 W' n L ((b, o) :: bs) := by
  obtain ⟨vs, h1, h2⟩ := h
  refine ⟨vs, h1.next hb, fun x hx => ?_⟩
  rcases List.mem_cons.1 hx with rfl | hx
  · refine ⟨ho, fun i hi hm => ?_, Nat.le_trans h1.below.size hn⟩
    have := (h1.disk i (by have := h1.len; omega) hi).1.blocks b hm
    omega
  · exact ⟨(hb.block x.1 (Array.getElem?_eq_some_iff.1 (h2 x hx).1).1).trans (h2 x hx).1, (h2 x hx).2⟩
theorem FlockL.boxed (o : Obj) : FlockL w0 (W.alloc o) n L ((W.heap.size, o) :: bs) := h.own ((Below.refl _ W).alloc (Nat.le_refl _) o) (heap_alloc_new W o) (Nat.le_refl _)
theorem FlockL.below : Below w0.heap.size w0 W := h.flock.below
end
/-- One of the own blocks turns. -/
theorem FlockL.turn {w0 W W' : World} {n : Nat} {L : List (Nat × DS)} {bs : List (Nat × Obj)} {b : Nat} {o o' : Obj} (h : FlockL w0 W n L ((b, o) :: bs)) (hg : W.grownBy W' (some b)) (ho : W'.heap[b]? = some o') (hd : ∀ x ∈ bs, x.1 ≠ b) : FlockL w0 W' n L ((b, o') :: bs) := by
  obtain ⟨vs, h1, h2⟩ := h
  obtain ⟨h3, h4, h5⟩ := h2 _ (List.mem_cons_self ..)
  have same : ∀ j (hj : j < vs.length) g, All vs[j].M g ∨ All vs[j].I g → W'.heap[g]? = W.heap[g]? := fun j hj g hm => hg.block g ((h1.disk j (by have := h1.len; omega) hj).1.blocks g hm) fun e => by
    cases e
    exact h4 j hj hm
  refine ⟨vs, ⟨h1.len, fun j hj hj' => ⟨(h1.disk j hj hj').1.same (fun g hm => same j hj' g hm) hg.size, (h1.disk j hj hj').2⟩, h1.apart, h1.below.grown hg h1.below.size fun r e => by cases e; exact h5⟩, fun x hx => ?_⟩
  rcases List.mem_cons.1 hx with rfl | hx
  · exact ⟨ho, h4, h5⟩
  · obtain ⟨k1, k2⟩ := h2 x (List.mem_cons_of_mem _ hx)
    exact ⟨(hg.block x.1 (Array.getElem?_eq_some_iff.1 k1).1 fun e => hd x hx (Option.some.inj e)).trans k1, k2⟩
theorem FlockL.call {w0 W : World} {n : Nat} {L : List (Nat × DS)} {bs : List (Nat × Obj)} (h : FlockL w0 W n L bs) (i : Nat) (hi : i < L.length) (hn : n ≤ i) {f : FuncId} {args : Array Value} {r : Value} {S' : DS} (hc : ∀ v, DiskP W L[i].1 L[i].2 v → (∀ g, All v.M g ∨ All v.I g → w0.heap.size ≤ g ∧ ∀ x ∈ bs, x.1 ≠ g) → Calls Tryz.prog f args W fun e w' => e = .returned r ∧ WentK W L[i].1 v S' w') :
    Calls Tryz.prog f args W fun e w' => e = .returned r ∧ FlockL w0 w' n (L.set i (L[i].1, S')) bs := by
  obtain ⟨vs, hv, hx⟩ := h
  have hi' : i < vs.length := by have := hv.len; omega
  refine (hc _ (hv.disk i hi hi').1 fun g hg => ⟨(hv.disk i hi hi').2 g hg, fun x hxb e => (hx x hxb).2.1 i hi' (e ▸ hg)⟩).mono fun e w' ⟨he, hw⟩ => ⟨he, ?_⟩
  obtain ⟨v', d1, t1⟩ := hw
  refine ⟨vs.set i v', hv.set i hi hi' hn d1 t1, fun x hxb => ?_⟩
  obtain ⟨k1, k2, k3⟩ := hx x hxb
  have hlt := (Array.getElem?_eq_some_iff.1 k1).1
  refine ⟨(t1.kept.block x.1 hlt fun hm => k2 i hi' (.inl hm)).trans k1, fun j hj => ?_, k3⟩
  rw [List.length_set] at hj
  by_cases e : i = j
  · subst e
    rw [List.getElem_set_self]
    rintro (k | k)
    · rcases t1.m x.1 k with k | k
      · exact k2 i hi' (.inl k)
      · omega
    · rcases t1.i x.1 k with k | k
      · exact k2 i hi' (.inr k)
      · omega
  · rw [List.getElem_set_ne e]
    exact k2 j hj
section
variable {w0 W : World} {p : Nat} {S : DS} {bs : List (Nat × Obj)} (h : FlockL w0 W 0 [(p, S)] bs) (hf : S.Fit)
include h hf
theorem keep_create (s : ByteArray) (hs : s.size ≤ nameMax) : Calls Tryz.prog 12 #[.pointer (some ⟨p, 0, none⟩), .string s] W fun e w' => e = .returned (.int .i64 (((S.create s).2 : Nat) : Int)) ∧ FlockL w0 w' 0 [(p, (S.create s).1)] bs :=
  h.call 0 Nat.zero_lt_one (Nat.le_refl _) fun _ hv _ => create_any hv s hs hf.weight hf.used hf.steps
theorem keep_remove (s : ByteArray) (hs : s.size ≤ nameMax) : Calls Tryz.prog 27 #[.pointer (some ⟨p, 0, none⟩), .string s] W fun e w' => e = .returned (.int .i64 (((S.remove s).2 : Nat) : Int)) ∧ FlockL w0 w' 0 [(p, (S.remove s).1)] bs :=
  h.call 0 Nat.zero_lt_one (Nat.le_refl _) fun _ hv _ => remove_any hv s hs hf.weight hf.used hf.steps
theorem keep_rename (a b : ByteArray) (ha : a.size ≤ nameMax) (hb : b.size ≤ nameMax) : Calls Tryz.prog 26 #[.pointer (some ⟨p, 0, none⟩), .string a, .string b] W fun e w' => e = .returned (.int .i64 (((S.rename a b).2 : Nat) : Int)) ∧ FlockL w0 w' 0 [(p, (S.rename a b).1)] bs :=
  h.call 0 Nat.zero_lt_one (Nat.le_refl _) fun _ hv _ => rename_any hv a b ha hb hf.weight hf.used hf.steps
theorem keep_syncDir : Calls Tryz.prog 24 #[.pointer (some ⟨p, 0, none⟩)] W fun e w' => e = .returned (.int .i64 (((S.syncDir).2 : Nat) : Int)) ∧ FlockL w0 w' 0 [(p, (S.syncDir).1)] bs :=
  h.call 0 Nat.zero_lt_one (Nat.le_refl _) fun _ hv _ => syncDir_any hv hf.weight hf.steps
theorem keep_sync (s : ByteArray) (hs : s.size ≤ nameMax) : Calls Tryz.prog 22 #[.pointer (some ⟨p, 0, none⟩), .string s] W fun e w' => e = .returned (.int .i64 (((S.sync s).2 : Nat) : Int)) ∧ FlockL w0 w' 0 [(p, (S.sync s).1)] bs :=
  h.call 0 Nat.zero_lt_one (Nat.le_refl _) fun _ hv _ => disk_sync hv s hs hf.weight hf.used hf.steps (Nat.le_trans (hf.1.heft _) (by decide))
theorem keep_truncate (s : ByteArray) (hs : s.size ≤ nameMax) (k : Int) (h1 : -9223372036854775808 ≤ k) (h2 : k ≤ 9223372036854775807) : Calls Tryz.prog 20 #[.pointer (some ⟨p, 0, none⟩), .string s, .int .i64 k] W fun e w' => e = .returned (.int .i64 (((S.truncate s k).2 : Nat) : Int)) ∧ FlockL w0 w' 0 [(p, (S.truncate s k).1)] bs :=
  h.call 0 Nat.zero_lt_one (Nat.le_refl _) fun _ hv _ => disk_truncate hv s hs hf.weight hf.used hf.steps (Nat.le_trans (hf.1.heft _) (by decide)) (Nat.le_trans (hf.1.acts _) (by decide)) h1 h2
theorem keep_append1 (s x : ByteArray) (hs : s.size ≤ nameMax) (hx : x.size ≤ 140737488355328) :
    Calls Tryz.prog 13 #[.pointer (some ⟨p, 0, none⟩), .string s, .slice (some ⟨W.heap.size, 0, none⟩) 1 1] (W.alloc (.cells #[.string x] 9)) fun e w' => e = .returned (.int .i64 (((S.append s x.data.toList).2 : Nat) : Int)) ∧ FlockL w0 w' 0 [(p, (S.append s x.data.toList).1)] bs :=
  (h.next ((Below.refl _ W).alloc (Nat.le_refl _) _)).call 0 Nat.zero_lt_one (Nat.le_refl _) fun _ hv _ => disk_append hv s hs hf.weight hf.used hf.steps (by
    have h1 := hf.1.heft (foundN S.fold.there s.data.toList)
    have h2 := hf.2
    show (S.file (foundN S.fold.there s.data.toList)).heft + min x.size S.room ≤ 100000
    omega) (Nat.le_trans (hf.1.acts _) (by decide)) ⟨_, _, _, rfl⟩ (Nat.le_trans hx (by decide)) fun W' hk => join_one hx (hk _ _ _ (heap_alloc_new W _) (by decide))
end
theorem keep_again {w0 W : World} {p mk n : Nat} {S : DS} {bs : List (Nat × Obj)} {K : Kept3} (h : FlockL w0 W 0 [(p, S)] bs) (hd : S.down = false) (hf : S.Fit) (hm : HasK W mk n K) :
    Calls Tryz.prog 25 #[.pointer (some ⟨p, 0, none⟩), .map (some mk)] W fun e w' => ∃ m' o', e = .returned (.map (some m')) ∧ HasK w' m' S.fold.there.length (againT S.fold.there K) ∧ FlockL w0 w' 0 [(p, S)] ((m', o') :: bs) := by
  obtain ⟨v, hv⟩ := h.flock.out 0 Nat.zero_lt_one
  refine (again_any hv hd hf hm).mono ?_
  rintro e w' ⟨m', rfl, h1, h2, h3⟩
  exact ⟨m', _, rfl, h1, h.own h3 (Array.getElem?_eq_getElem h1.lt) h2⟩

/-! the acts' disks, up and not armed -/
structure Up (S : DS) : Prop where
  down : S.down = false
  armed : S.armed = 0
theorem Up.stepped {S : DS} (h : Up S) : Up S.stepped := ⟨by show (S.down || decide (S.armed = 1)) = false; rw [h.down, h.armed]; rfl, by show (if S.down then S.armed else S.armed - 1) = 0; rw [h.down, h.armed]; rfl⟩
theorem Up.doing {S : DS} (h : Up S) (g : DS → DS × Nat) : S.doing g = g S.stepped := by
  unfold DS.doing
  rw [if_neg (by rw [h.stepped.down]; simp)]
theorem Up.tame {S : DS} (h : Up S) {g : DS → DS × Nat} (hg : Tame g) : Up (S.doing g).1 := by
  rw [h.doing]
  exact ⟨(hg S.stepped).2.trans h.stepped.down, (hg S.stepped).1.trans h.stepped.armed⟩
theorem Up.used {S : DS} (h : Up S) : S.usedD = S.used := by
  unfold DS.usedD
  rw [if_neg (by rw [h.down]; simp)]
theorem tame_rename (a b : ByteArray) : Tame fun S => S.rename0 a b := fun _ => ⟨rfl, rfl⟩
theorem up_create {S : DS} (h : Up S) (s : ByteArray) : Up (S.create s).1 := h.tame (tame_create s)
theorem up_remove {S : DS} (h : Up S) (s : ByteArray) : Up (S.remove s).1 := h.tame (tame_remove s)
theorem up_rename {S : DS} (h : Up S) (a b : ByteArray) : Up (S.rename a b).1 := h.tame (tame_rename a b)
theorem up_syncDir {S : DS} (h : Up S) : Up S.syncDir.1 := h.tame tame_syncDir
theorem up_change {S : DS} (h : Up S) (s : ByteArray) (g : FileS → FileS × Nat) : Up (S.change s g).1 := h.tame (tame_change s g)
theorem keeps_create {S : DS} {K : Kept3} (h : Up S) (hg : S.fold.good) (hi : Inv S.fold S.file K) (s : ByteArray) : Inv (S.create s).1.fold (S.create s).1.file K := by
  unfold DS.create
  rw [h.doing]
  exact inv_create (S := S.stepped) hg hi s
theorem keeps_remove {S : DS} {K : Kept3} (h : Up S) (hi : Inv S.fold S.file K) (s : ByteArray) : Inv (S.remove s).1.fold (S.remove s).1.file (if (S.remove s).2 = 0 then kput K s.data.toList ([], true) else K) := by
  unfold DS.remove
  rw [h.doing]
  exact inv_remove (S := S.stepped) hi s
theorem keeps_rename {S : DS} {K : Kept3} (h : Up S) (hg : S.fold.good) (hi : Inv S.fold S.file K) (a b : ByteArray) : Inv (S.rename a b).1.fold (S.rename a b).1.file (if (S.rename a b).2 = 0 ∧ a ≠ b then kput (kput K a.data.toList ([], true)) b.data.toList ([], true) else K) := by
  unfold DS.rename
  rw [h.doing]
  exact inv_rename (S := S.stepped) hg hi a b
theorem keeps_syncDir {S : DS} {K : Kept3} (h : Up S) (hg : S.fold.good) (hi : Inv S.fold S.file K) : Inv S.syncDir.1.fold S.syncDir.1.file (againT S.syncDir.1.fold.there K) := by
  unfold DS.syncDir
  rw [h.doing]
  exact inv_again (S := S.stepped) hg hi
theorem keeps_append {S : DS} {K : Kept3} (h : Up S) (hg : S.fold.good) (hi : Inv S.fold S.file K) (s : ByteArray) (b : List UInt8) : Inv (S.append s b).1.fold (S.append s b).1.file K := by
  unfold DS.append DS.change
  rw [h.doing]
  exact inv_append (S := S.stepped) hg hi s _ b
theorem keeps_truncate {S : DS} {K : Kept3} (h : Up S) (hg : S.fold.good) (hi : Inv S.fold S.file K) (s : ByteArray) (k : Int) :
    Inv (S.truncate s k).1.fold (S.truncate s k).1.file (if (S.truncate s k).2 = 0 then (fun y => if y = s.data.toList then (K y).map fun v => ([], v.2) else K y) else K) := by
  unfold DS.truncate DS.change
  rw [h.doing]
  exact inv_truncate (S := S.stepped) hg hi s k
/-- Behind a Sync that answers OK. -/
theorem keeps_sync {S : DS} {K : Kept3} (h : Up S) (hg : S.fold.good) (hi : Inv S.fold S.file K) (s : ByteArray) :
    Inv (S.sync s).1.fold (S.sync s).1.file (if (S.sync s).2 = 0 then (fun y => if y = s.data.toList then (K y).map fun v => (((S.sync s).1.readAt s 0 10000).1, v.2) else K y) else K) := by
  have hu := up_change h s syncG
  unfold DS.sync at hu ⊢
  unfold DS.change at hu ⊢
  rw [h.doing] at hu ⊢
  have := inv_sync (S := S.stepped) hg hi s
  by_cases hf : foundB S.stepped.fold.there s.data.toList = true
  · have e : S.stepped.change0 s syncG = ({ S.stepped with file := upd S.stepped.file (foundN S.stepped.fold.there s.data.toList) (syncG (S.stepped.file (foundN S.stepped.fold.there s.data.toList))).1 }, 0) := by
      unfold DS.change0
      rw [if_pos hf]
      rfl
    have e2 : (S.stepped.change0 s syncG).2 = 0 := by rw [e]
    rw [if_pos hf] at this
    rw [if_pos e2]
    have e3 : ((S.stepped.change0 s syncG).1.readAt s 0 10000).1 = (S.stepped.file (foundN S.stepped.fold.there s.data.toList)).R.take 10000 := by
      unfold DS.readAt
      rw [if_neg (by rw [hu.down]; simp), e]
      show (if foundB S.stepped.fold.there s.data.toList = true then _ else _ : List UInt8 × Int).1 = _
      rw [if_pos hf]
      show readT (upd _ _ _ _).R 0 10000 = _
      rw [upd_same]
      unfold readT
      rw [if_neg (by omega)]
      rfl
    rw [e3]
    exact this
  · have e : S.stepped.change0 s syncG = (S.stepped, 9) := by
      unfold DS.change0
      rw [if_neg hf]
    rw [if_neg hf] at this
    rw [if_neg (by rw [e]; simp)]
    exact this
/-- What an append answers, and how much is used behind it. -/
theorem append_says {S : DS} (h : Up S) (hg : S.fold.good) (s : ByteArray) (b : List UInt8) :
    ((S.append s b).2 = 0 → b.length ≤ S.room - S.used) ∧ ((S.append s b).2 = 10 → S.room - S.used < b.length ∧ S.room ≤ (S.append s b).1.used) ∧ (S.append s b).1.used ≤ max S.used S.room := by
  have hus : S.stepped.used = S.used := rfl
  unfold DS.append DS.change
  rw [h.doing]
  by_cases hf : foundB S.stepped.fold.there s.data.toList = true
  · have e : S.stepped.change0 s (appG (S.room - S.used) b) = ({ S.stepped with file := upd S.stepped.file (foundN S.stepped.fold.there s.data.toList) (appG (S.room - S.used) b (S.stepped.file (foundN S.stepped.fold.there s.data.toList))).1 }, if b.length ≤ S.room - S.used then 0 else 10) := by
      unfold DS.change0
      rw [if_pos hf]
      rfl
    have hc := change_used (S := S.stepped) hg hf (appG (S.room - S.used) b (S.stepped.file (foundN S.stepped.fold.there s.data.toList))).1
    have hr : (appG (S.room - S.used) b (S.stepped.file (foundN S.stepped.fold.there s.data.toList))).1.R.length = (S.stepped.file (foundN S.stepped.fold.there s.data.toList)).R.length + min (S.room - S.used) b.length := by
      show (reads _ (appT _ (b.take (S.room - S.used)))).length = _
      unfold appT
      by_cases e : b.take (S.room - S.used) = []
      · rw [if_pos e]
        have := congrArg List.length e
        rw [List.length_take] at this
        show (reads (S.stepped.file (foundN S.stepped.fold.there s.data.toList)).D (S.stepped.file (foundN S.stepped.fold.there s.data.toList)).A).length = (reads (S.stepped.file (foundN S.stepped.fold.there s.data.toList)).D (S.stepped.file (foundN S.stepped.fold.there s.data.toList)).A).length + _
        rw [List.length_nil] at this
        omega
      · rw [if_neg e, reads_snoc]
        show (_ ++ _ : List UInt8).length = _
        rw [List.length_append, List.length_take]
        rfl
    rw [e]
    rw [hr, hus] at hc
    dsimp only
    refine ⟨fun h0 => ?_, fun h0 => ?_, ?_⟩
    · by_cases hl : b.length ≤ S.room - S.used
      · exact hl
      · rw [if_neg hl] at h0; cases h0
    · by_cases hl : b.length ≤ S.room - S.used
      · rw [if_pos hl] at h0; cases h0
      · exact ⟨by omega, by omega⟩
    · omega
  · have e : S.stepped.change0 s (appG (S.room - S.used) b) = (S.stepped, 9) := by
      unfold DS.change0
      rw [if_neg hf]
    rw [e]
    dsimp only
    exact ⟨(fun h0 => by cases h0), (fun h0 => by cases h0), by rw [hus]; omega⟩
end Go.Proofs.YtmmoilmfpiclgaaGreat
namespace Go.Proofs.YtmmoilmfpiclgaaGreat
open Go.RowKit Go.Shelf
open Fld (FS Names FAct actsOn foundN foundB findT withT withoutT GoodN Rising mayB nam nameMax FolderS FolderIn ARow textsOf)

/-- A copy comes. -/
theorem keep_copy {w0 W : World} {n : Nat} {L : List (Nat × DS)} {bs : List (Nat × Obj)} (h : FlockL w0 W n L bs) (i : Nat) (hi : i < L.length) (hin : i < n) (hf : L[i].2.Fit) :
    Calls Tryz.prog 11 #[.pointer (some ⟨L[i].1, 0, none⟩)] W fun e w' => ∃ q, e = .returned (.pointer (some ⟨q, 0, none⟩)) ∧ FlockL w0 w' n (L ++ [(q, L[i].2)]) bs := by
  obtain ⟨vs, ⟨h1, h2, h3, h4⟩, hbs⟩ := h
  have hi' : i < vs.length := by omega
  obtain ⟨d, d'⟩ := h2 i hi hi'
  refine (disk_copy d hf.weight (fun m => Nat.le_trans (hf.1.acts m) (by decide))).mono ?_
  rintro e w' ⟨q, u, rfl, hd, hM, hI, _, _, _, hb⟩
  have old : ∀ j (hj : j < vs.length) g, All vs[j].M g ∨ All vs[j].I g → g < W.heap.size := fun j hj g hg => (h2 j (by omega) hj).1.blocks g hg
  have hI' : ∀ g, All u.I g → All vs[i].M g ∨ All vs[i].I g := fun g hg => by
    rcases hI g hg with k | k
    · exact .inr k
    · obtain ⟨fv, lv, lost, armed, P, k1, _⟩ := d.it
      rcases k1.rowIn g k with k | k
      · exact .inl ⟨0, k⟩
      · exact .inr ⟨0, k⟩
  refine ⟨q, rfl, vs ++ [u], ⟨by simp [h1], fun j hj hj' => ?_, fun a b ha hb' hab hna g h5 h6 => ?_, Below.next h4 hb⟩, fun x hx => ?_⟩
  · by_cases e : j < L.length
    · simp only [List.getElem_append_left e, List.getElem_append_left (show j < vs.length by omega)]
      exact ⟨(h2 j e (by omega)).1.below hb, (h2 j e (by omega)).2⟩
    · have e1 : j = L.length := by simp at hj; omega
      subst e1
      simp only [List.getElem_append_right (Nat.le_refl L.length), List.getElem_append_right (show vs.length ≤ L.length by omega), Nat.sub_self, h1, List.getElem_singleton]
      refine ⟨hd, fun g hg => ?_⟩
      rcases hg with hg | hg
      · exact Nat.le_trans h4.size (hM g hg)
      · exact d' g (hI' g hg)
  · by_cases ea : a < vs.length <;> by_cases eb : b < vs.length
    · simp only [List.getElem_append_left ea] at h5
      simp only [List.getElem_append_left eb] at h6
      exact h3 a b ea eb hab hna g h5 h6
    · have e1 : b = vs.length := by simp at hb'; omega
      subst e1
      simp only [List.getElem_append_left ea] at h5
      simp only [List.getElem_append_right (Nat.le_refl vs.length), Nat.sub_self, List.getElem_singleton] at h6
      have h7 := old a ea g (.inl h5)
      rcases h6 with h6 | h6
      · have := hM g h6; omega
      · exact h3 a i ea hi' (by omega) hna g h5 (hI' g h6)
    · have e1 : a = vs.length := by simp at ha; omega
      subst e1
      simp only [List.getElem_append_right (Nat.le_refl vs.length), Nat.sub_self, List.getElem_singleton] at h5
      simp only [List.getElem_append_left eb] at h6
      have := old b eb g h6
      have := hM g h5
      omega
    · simp at ha hb'; omega
  · obtain ⟨k1, k2, k3⟩ := hbs x hx
    have hlt := (Array.getElem?_eq_some_iff.1 k1).1
    refine ⟨(hb.block x.1 hlt).trans k1, fun j hj hm => ?_, k3⟩
    by_cases e : j < vs.length
    · simp only [List.getElem_append_left e] at hm
      exact k2 j e hm
    · have e1 : j = vs.length := by simp at hj; omega
      subst e1
      simp only [List.getElem_append_right (Nat.le_refl vs.length), Nat.sub_self, List.getElem_singleton] at hm
      rcases hm with hm | hm
      · have := hM x.1 hm; omega
      · exact k2 i hi' (hI' x.1 hm)
/-- The first one alone may be changed again. -/
theorem FlockL.one {w0 W : World} {n : Nat} {x : Nat × DS} {L : List (Nat × DS)} {bs : List (Nat × Obj)} (h : FlockL w0 W n (x :: L) bs) : FlockL w0 W 0 [x] bs := by
  obtain ⟨vs, ⟨h1, h2, h3, h4⟩, hbs⟩ := h
  match vs, h1 with
  | v :: vs, h1 =>
    refine ⟨[v], ⟨rfl, fun i hi hi' => ?_, fun i j hi hj hij _ => by simp at hi hj; omega, h4⟩, fun y hy => ?_⟩
    · obtain rfl : i = 0 := by simp at hi; omega
      exact h2 0 (by simp) (by simp)
    · obtain ⟨k1, k2, k3⟩ := hbs y hy
      refine ⟨k1, fun i hi => ?_, k3⟩
      obtain rfl : i = 0 := by simp at hi; omega
      exact k2 0 (by simp)
theorem FlockL.mono {w0 W : World} {n m : Nat} {L : List (Nat × DS)} {bs : List (Nat × Obj)} (h : FlockL w0 W n L bs) (hn : n ≤ m) : FlockL w0 W m L bs := by
  obtain ⟨vs, ⟨h1, h2, h3, h4⟩, hbs⟩ := h
  exact ⟨vs, ⟨h1, h2, fun i j hi hj hij hm => h3 i j hi hj hij (by omega), h4⟩, hbs⟩
/-- The files of one, in a row that is the walk's own. -/
theorem keep_files {w0 W : World} {n : Nat} {L : List (Nat × DS)} {bs : List (Nat × Obj)} (h : FlockL w0 W n L bs) (i : Nat) (hi : i < L.length) (hf : L[i].2.Fit) :
    Calls Tryz.prog 28 #[.pointer (some ⟨L[i].1, 0, none⟩)] W fun e w' => ∃ ad c bs', e = .returned (.slice ad L[i].2.files.length c) ∧ FlockL w0 w' n L (bs' ++ bs) ∧ ∀ W', (∀ x ∈ bs', W'.heap[x.1]? = some x.2) → FRow W' (.slice ad L[i].2.files.length c) L[i].2.files :=
  h.flock.read i hi fun v hv => (disk_files hv hf.weight).mono fun e w' ⟨r, he, hr, hb⟩ => by
    obtain ⟨ad, c, rfl⟩ := ownsSlice hr
    rcases hr.2 with ⟨e1, h0⟩ | ⟨g, cap, cur, e1, hbg, hg, h4, h5, h6, ht⟩
    · refine ⟨ad, c, [], he, h.next hb, fun W' _ => ⟨ad, c, rfl, fun k hk => ?_⟩⟩
      omega
    · refine ⟨ad, c, [(g, .cells cur 26 (0, 0))], he, h.own hb hg hbg, fun W' hW => ?_⟩
      have hg' : W'.heap[g]? = some (.cells cur 26 (0, 0)) := hW (g, .cells cur 26 (0, 0)) (by simp)
      exact frow_of (w := W') (base := 0) ⟨by have := hr.1; exact this, .inr ⟨g, cap, cur, e1, Nat.zero_le _, hg', h4, h5, h6, ht⟩⟩
/-- A restart by a row that came in, or that has just been laid. -/
theorem keep_restart {w0 W : World} {n : Nat} {L : List (Nat × DS)} {bs : List (Nat × Obj)} (h : FlockL w0 W n L bs) (i : Nat) (hi : i < L.length) (hn : n ≤ i) (hf : L[i].2.Fit) {l : List Nat} {lv : Value} (hr : Row16 W lv l) (hll : l.length ≤ 1000000)
    (hlv : ∀ b o n c, lv = .slice (some ⟨b, o, none⟩) n c → ((∃ o, (b, o) ∈ bs) ∨ b < w0.heap.size) ∧ b < W.heap.size) (h16 : ∀ i, num l i ≤ 65535) :
    Calls Tryz.prog 14 #[.pointer (some ⟨L[i].1, 0, none⟩), lv] W fun e w' => e = .returned (.tuple #[]) ∧ FlockL w0 w' n (L.set i (L[i].1, L[i].2.restart l)) bs :=
  h.call i hi hn fun v hv hx => disk_restart hv hf.weight (fun m => Nat.le_trans (hf.1.acts m) (by decide)) (fun m => Nat.le_trans (hf.1.heft m) (by decide)) hr hll (fun b o m c e => by
    obtain ⟨h1, h2⟩ := hlv b o m c e
    refine ⟨fun hm => ?_, h2⟩
    obtain ⟨k1, k2⟩ := hx b (.inl hm)
    rcases h1 with ⟨o, h1⟩ | h1
    · exact k2 _ h1 rfl
    · omega) h16
end Go.Proofs.YtmmoilmfpiclgaaGreat
namespace Go.Proofs.YtmmoilmfpiclgaaGreat
set_option linter.unusedSimpArgs false
set_option linter.unusedVariables false
open Go.RowKit Go.Shelf
open Fld (FS Names FAct actsOn foundN foundB findT withT withoutT GoodN Rising mayB nam nameMax FolderS FolderIn ARow textsOf)

/-- The names that the map has are no longer than what may be. -/
def KShort (K : Kept3) : Prop := ∀ x v, K x = some v → x.length ≤ nameMax
theorem kshort_put {K : Kept3} (h : KShort K) {x : List UInt8} (hx : x.length ≤ nameMax) (v : List UInt8 × Bool) : KShort (kput K x v) := fun y u hy => by
  by_cases e : y = x
  · subst e; exact hx
  · rw [kput_other _ _ e] at hy
    exact h y u hy
/-- The state between two acts. -/
structure KeepI (w W : World) (p : Nat) (S : DS) (k q mk n : Nat) (o : Obj) (K : Kept3) : Prop where
  flock : FlockL w W 0 [(p, S)] [(mk, o)]
  map : ∀ W' : World, W'.heap[mk]? = some o → HasK W' mk n K
  inv : Inv S.fold S.file K
  short : KShort K
  up : Up S
  sized : S.Sized (3 * k) (k * q) q
  n : n ≤ 3 * k
theorem KeepI.fit {w W : World} {p : Nat} {S : DS} {k q mk n : Nat} {o : Obj} {K : Kept3} (h : KeepI w W p S k q mk n o K) (hk : k ≤ 50) (hq : q ≤ 255) : S.Fit :=
  h.sized.fit (by omega) (Nat.le_trans (Nat.mul_le_mul hk hq) (by decide)) (by omega)
theorem KeepI.good {w W : World} {p : Nat} {S : DS} {k q mk n : Nat} {o : Obj} {K : Kept3} (h : KeepI w W p S k q mk n o K) : S.fold.good := by
  obtain ⟨v, hv⟩ := h.flock.flock.out 0 Nat.zero_lt_one
  exact hv.good
theorem HasK.obj {w : World} {m n : Nat} {K : Kept3} (h : HasK w m n K) {o : Obj} (ho : w.heap[m]? = some o) : ∀ W' : World, W'.heap[m]? = some o → HasK W' m n K := fun _ hW => h.same (hW.trans ho.symm)
theorem DS.Sized.mono0 {S : DS} {q : Nat} (h : S.Sized 0 0 q) : S.Sized (3 * 0) (0 * q) q := ⟨h.light.mono (Nat.zero_le _) (Nat.zero_le _), h.room⟩
theorem sized_up {S : DS} {k q : Nat} (h : S.Sized (3 * k + 3) (k * q) q) : S.Sized (3 * (k + 1)) ((k + 1) * q) q := ⟨h.light.mono (by omega) (Nat.mul_le_mul_right _ (Nat.le_succ k)), h.room⟩

set_option maxHeartbeats 64000000 in
set_option maxRecDepth 100000 in
theorem diskKeeps_walk (q : Nat) (hq : q ≤ 255) (l : List Deed) (v : Value) (nl : List Nat) (nv : Value) (w : World) (hl : Deeds w v l) (hok : ∀ d ∈ l, d.ok) (hn : Row16 w nv nl) (hnb : ∀ b o m c, nv = .slice (some ⟨b, o, none⟩) m c → b < w.heap.size) (hcap : ∃ ad m c, nv = .slice ad m c ∧ m ≤ c ∧ c ≤ 9223372036854775807) :
    Calls Tryz.prog 4 #[.int .u8 (q : Int), v, nv] w fun e w' => e = .returned (.bool true) ∧ Below w.heap.size w w' := by
  obtain ⟨ad, cp, rfl, hc⟩ := hl
  have HC : Hid (∀ W, Below w.heap.size w W → ∀ i, i < l.length → (l.getD i default).ok ∧ ∃ b o, ad = some ⟨b, o, none⟩ ∧ DeedAt W b (o + i * 6) (l.getD i default)) := Lib.hid fun W hW i hi => by
    obtain ⟨b, o, ha, hlt, hd⟩ := hc i hi
    exact ⟨hok _ (by simp [List.getD, hi]), b, o, ha, hd.below hW hlt⟩
  have HW := Lib.hid (works_any w)
  have QN := Lib.hid (show ∀ W, Below w.heap.size w W → Calls Tryz.prog 9 #[.int .i64 (q : Int)] W fun e w' => ∃ p, e = .returned (.pointer (some ⟨p, 0, none⟩)) ∧ Flock w w' 0 [(p, DS.new q)] from fun W hb => flock_new ((flock_nil w).next hb) q (by omega))
  have HNV := Lib.hid hn
  have HNB := Lib.hid hnb
  obtain ⟨na, nm, nc, rfl, hnc, hnc2⟩ := hcap
  have hmm := @run_makeMap Tryz.prog
  clear hc hok hn hnb
  go_enter Tryz.func4, Tryz.ntmps4
  go_wp2_with (first
    | (go_at_call 17; go_must (with_reducible refine HW.out.mono ?_); rintro e w1 ⟨rfl, hq⟩; have B1 := Lib.hid hq; clear hq)
    | (go_at_call 9; go_must (with_reducible refine (QN.out _ B1.out).mono ?_); rintro e w2 ⟨p, rfl, hq⟩; have D1 := Lib.hid hq; clear hq))
  have hms : (w2.alloc (.map #[] 0)).heap.size = w2.heap.size + 1 := by simp
  have K0 := Lib.hid (show KeepI w (w2.alloc (.map #[] 0)) p (DS.new q) 0 q w2.heap.size 0 (.map #[] 0) (fun _ => none) from ⟨D1.out.with.boxed _, (hasK_made w2).obj (heap_alloc_new w2 _), inv_none _ _, (fun x v h => by cases h), ⟨rfl, rfl⟩, (sized_new q).mono0, Nat.le_refl _⟩)
  clear QN HW hmm D1 B1
  go_loopw [8, 9] (fun s8 s9 wr => ∃ (k : Nat) (S : DS) (mk n : Nat) (o : Obj) (K : Kept3), k ≤ 50 ∧ k ≤ l.length ∧ s9 = .int .i64 k ∧ s8 = .map (some mk) ∧ KeepI w wr p S k q mk n o K) (fun _ s9 _ => 50 - (intOf s9).toNat)
  case atStart => exact ⟨0, _, _, _, _, _, by omega, Nat.zero_le _, rfl, rfl, K0.out⟩
  case round =>
    obtain ⟨k, S, mk, n, om, K, hk, hkl, rfl, rfl, hI⟩ := hrel
    have HI := Lib.hid hI
    clear hI K0
    by_cases hlk : k < l.length ∧ k < 50
    · obtain ⟨hlt, h50⟩ := hlk
      obtain ⟨⟨ok0, ok1, ok2, ok3, ok4, ok5, ok6⟩, b, o, rfl, c0, c1, c2, c3, c4, c5⟩ := HC.out _ HI.out.flock.below k hlt
      obtain ⟨⟨what, a, b', raw, nn, lv⟩, hx⟩ : ∃ d, l.getD k default = d := ⟨_, rfl⟩
      rw [hx] at c0 c1 c2 c3 c4 c5 ok0 ok1 ok2 ok3 ok4 ok5 ok6
      simp only at c0 c1 c2 c3 c4 c5 ok0 ok1 ok2 ok3 ok4 ok5 ok6
      have HNA := named_any ⟨what, a, b', raw, nn, lv⟩ ok6 a ok1
      have HNB2 := named_any ⟨what, a, b', raw, nn, lv⟩ ok6 b' ok2
      have HSM := small_any ⟨what, a, b', raw, nn, lv⟩ ok6 ok4 ok5
      obtain ⟨al, an, ac, rfl⟩ := ok6
      have e1 : decide ((k : Int) < (l.length : Int)) = true := decide_eq_true (by omega)
      have e1' : decide (k < l.length) = true := decide_eq_true hlt
      have e2 : decide ((k : Int) < 50) = true := decide_eq_true (by omega)
      have e2' : decide (k < 50) = true := decide_eq_true h50
      have hza := nameD_size ok3 a
      have hzb := nameD_size ok3 b'
      obtain ⟨na', hna⟩ : ∃ na', nameD raw a = na' := ⟨_, rfl⟩
      obtain ⟨nb', hnb⟩ : ∃ nb', nameD raw b' = nb' := ⟨_, rfl⟩
      have hsm := smallD_small ok4 ok5
      obtain ⟨sm, hsme⟩ : ∃ sm, smallD nn = sm := ⟨_, rfl⟩
      unfold Deed.vals at HNA HNB2 HSM
      dsimp only at HNA HNB2 HSM
      rw [hna] at hza HNA
      rw [hnb] at hzb HNB2
      rw [hsme] at hsm HSM
      have HSM' := Lib.hid HSM
      clear hx HC hna hnb hsme HSM
      go_upto_region 11 with fail
      obtain ⟨W1, hW1⟩ : ∃ W1, wr.alloc (.cells #[.int .u8 (what : Int), .int .u8 (a : Int), .int .u8 (b' : Int), .string raw, .int .i16 nn, .slice al an ac] 35) = W1 := ⟨_, rfl⟩
      have hxh := heap_alloc_new wr (.cells #[.int .u8 (what : Int), .int .u8 (a : Int), .int .u8 (b' : Int), .string raw, .int .i16 nn, .slice al an ac] 35)
      have h1x := HI.out.flock.boxed (.cells #[.int .u8 (what : Int), .int .u8 (a : Int), .int .u8 (b' : Int), .string raw, .int .i16 nn, .slice al an ac] 35)
      rw [hW1] at hxh h1x ⊢
      obtain ⟨xb, hxb⟩ : ∃ xb, wr.heap.size = xb := ⟨_, rfl⟩
      rw [hxb] at hxh h1x ⊢
      have HX : Hid (∀ W : World, W.heap[xb]? = W1.heap[xb]? → W.cell? ⟨xb, 0, none⟩ = some (.int .u8 (what : Int)) ∧ W.cell? ⟨xb, 1, none⟩ = some (.int .u8 (a : Int)) ∧ W.cell? ⟨xb, 2, none⟩ = some (.int .u8 (b' : Int)) ∧ W.cell? ⟨xb, 3, none⟩ = some (.string raw) ∧ W.cell? ⟨xb, 4, none⟩ = some (.int .i16 nn) ∧ W.cell? ⟨xb, 5, none⟩ = some (.slice al an ac)) := Lib.hid fun W h => by
        have h := h.trans hxh
        exact ⟨by rw [cell_of_row W xb 0 _ _ _ h]; rfl, by rw [cell_of_row W xb 1 _ _ _ h]; rfl, by rw [cell_of_row W xb 2 _ _ _ h]; rfl, by rw [cell_of_row W xb 3 _ _ _ h]; rfl, by rw [cell_of_row W xb 4 _ _ _ h]; rfl, by rw [cell_of_row W xb 5 _ _ _ h]; rfl⟩
      obtain ⟨ob, hob⟩ : ∃ ob, (Obj.cells #[.int .u8 (what : Int), .int .u8 (a : Int), .int .u8 (b' : Int), .string raw, .int .i16 nn, .slice al an ac] 35 (0, 0)) = ob := ⟨_, rfl⟩
      rw [hob] at h1x hxh
      have HXO := Lib.hid (fun (W : World) (h : W.heap[xb]? = some ob) => HX.out W (h.trans hxh.symm))
      have H1 := Lib.hid h1x
      obtain ⟨d0, d1, d2, d3, d4, d5⟩ := HXO.out W1 hxh
      have gd0 := fun d os => cell_regrown d0 d os
      have gd1 := fun d os => cell_regrown d1 d os
      have gd2 := fun d os => cell_regrown d2 d os
      have gd3 := fun d os => cell_regrown d3 d os
      have gd4 := fun d os => cell_regrown d4 d os
      have gd5 := fun d os => cell_regrown d5 d os
      have qa := quiet_call (w := W1) fun W _ => HNA W
      have qb := quiet_call (w := W1) fun W _ => HNB2 W
      clear c0 c1 c2 c3 c4 c5 hW1 hxh hxb hob h1x HX HNA HNB2 d0 d1 d2 d3 d4 d5
      refine wp_region_quiet_below (by kernel_rfl) (by kernel_rfl) ?_
      repeat (go_big_quiet_step ((go_at_call 18; first | with_reducible exact qa _ _ | with_reducible exact qb _ _)))
      refine wpQuiet_nil ?_
      intro _ hw'
      obtain ⟨⟨dq, osq⟩, hw''⟩ := hw'
      subst hw''
      have HB5 := Lib.hid (below_regrown W1 dq osq)
      generalize Sort.grow (redrawn W1 dq) osq = w5 at HB5 ⊢
      clear gd0 gd1 gd2 gd3 gd4 gd5 qa qb
      have H5 := Lib.hid (H1.out.next HB5.out)
      have hus := HI.out.up.used
      obtain ⟨u0, hu0⟩ : ∃ u0, S.used = u0 := ⟨_, rfl⟩
      have HU0 := Lib.hid hu0
      have QU := Lib.hid (show ∀ W (bs : List (Nat × Obj)), FlockL w W 0 [(p, S)] bs → Calls Tryz.prog 19 #[.pointer (some ⟨p, 0, none⟩)] W fun e w' => e = .returned (.int .i64 (u0 : Int)) ∧ W = w' from fun W bs h => h.flock.read 0 Nat.zero_lt_one fun v hv => (used_any hv).mono fun e w' ⟨he, hw⟩ => ⟨by rw [he, ← hu0]; exact congrArg (fun k : Nat => Ending.returned (.int .i64 (k : Int))) hus, hw⟩)
      have qu := quiet_call (w := w5) fun W hb => (QU.out W _ (H5.out.next hb)).mono fun e w' h' => (⟨h'.1, h'.2 ▸ Below.refl _ _⟩ : e = .returned (.int .i64 (u0 : Int)) ∧ Below W.heap.size W w')
      obtain ⟨d0, d1, d2, d3, d4, d5⟩ := HXO.out w5 (H5.out.at (List.mem_cons_self ..))
      have gd3 := fun d os => cell_regrown d3 d os
      clear d0 d1 d2 d3 d4 d5 hus hu0
      go_upto_region 12 with fail
      refine wp_region_quiet_below (by kernel_rfl) (by kernel_rfl) ?_
      repeat (go_big_quiet_step ((go_at_call 19; with_reducible exact qu _ _)))
      refine wpQuiet_nil ?_
      intro _ hw'
      obtain ⟨⟨dq, osq⟩, hw''⟩ := hw'
      subst hw''
      have HB6 := Lib.hid (below_regrown w5 dq osq)
      generalize Sort.grow (redrawn w5 dq) osq = w6 at HB6 ⊢
      have H6 := Lib.hid (H5.out.next HB6.out)
      clear gd3 qu HB5 HB6 H5 H1
      obtain ⟨d0, d1, d2, d3, d4, d5⟩ := HXO.out w6 (H6.out.at (List.mem_cons_self ..))
      have hm : (what : Int).tmod 16 = ((what % 16 : Nat) : Int) := by rw [Int.tmod_eq_emod_of_nonneg (by omega)]; omega
      have hm2 : (what : Int) % 16 = ((what % 16 : Nat) : Int) := by omega
      obtain ⟨x16, hx16⟩ : ∃ x16, what % 16 = x16 := ⟨_, rfl⟩
      rw [hx16] at hm hm2
      have hl16 : x16 < 16 := by omega
      clear hx16
      have HF := Lib.hid (HI.out.fit hk hq)
      have hkq : 3 * (k + 1) ≤ 153 := by omega
      have hkm : x16 = 0 ∨ x16 = 1 ∨ x16 = 6 ∨ x16 = 7 ∨ x16 = 8 ∨ x16 = 9 ∨ x16 = 10 ∨ x16 = 11 ∨ x16 = 12 ∨ (x16 ≠ 0 ∧ x16 ≠ 1 ∧ x16 ≠ 6 ∧ x16 ≠ 7 ∧ x16 ≠ 8 ∧ x16 ≠ 9 ∧ x16 ≠ 10 ∧ x16 ≠ 11 ∧ x16 ≠ 12) := by omega
      rcases hkm with h | h | h | h | h | h | h | h | h | h
      · subst h
        as_aux_lemma =>
          have QC := Lib.hid (keep_create H6.out HF.out na' hza)
          obtain ⟨er, her⟩ : ∃ er, (S.create na').2 = er := ⟨_, rfl⟩
          rw [her] at QC
          clear her
          go_wp2_with (go_at_call 12; go_must (with_reducible refine QC.out.mono ?_); rintro e w7 ⟨rfl, hq⟩; have H7 := Lib.hid hq; clear hq)
          exact ⟨⟨k + 1, _, mk, n, om, K, by omega, by omega, by go_num, rfl, ⟨H7.out.less (by simp), HI.out.map, keeps_create HI.out.up HI.out.good HI.out.inv na', HI.out.short, up_create HI.out.up na', sized_up (sized_create HI.out.sized na'), by have := HI.out.n; omega⟩⟩, by simp [intOf]; omega⟩
      · subst h
        as_aux_lemma =>
          have QC := Lib.hid (keep_create H6.out HF.out na' hza)
          obtain ⟨er, her⟩ : ∃ er, (S.create na').2 = er := ⟨_, rfl⟩
          rw [her] at QC
          clear her
          go_wp2_with (go_at_call 12; go_must (with_reducible refine QC.out.mono ?_); rintro e w7 ⟨rfl, hq⟩; have H7 := Lib.hid hq; clear hq)
          exact ⟨⟨k + 1, _, mk, n, om, K, by omega, by omega, by go_num, rfl, ⟨H7.out.less (by simp), HI.out.map, keeps_create HI.out.up HI.out.good HI.out.inv na', HI.out.short, up_create HI.out.up na', sized_up (sized_create HI.out.sized na'), by have := HI.out.n; omega⟩⟩, by simp [intOf]; omega⟩
      · subst h
        as_aux_lemma =>
          have QT := Lib.hid (fun (W : World) (h : FlockL w W 0 [(p, S)] [(xb, ob), (mk, om)]) => keep_truncate h HF.out na' hza sm (by omega) (by omega))
          have HV := Lib.hid (keeps_truncate HI.out.up HI.out.good HI.out.inv na' sm)
          have HUP := Lib.hid (up_change HI.out.up na' (cutG sm))
          have HSZ := Lib.hid (sized_up (sized_truncate HI.out.sized na' sm))
          have HUP : Hid (Up (S.truncate na' sm).1) := HUP
          obtain ⟨T, hT⟩ : ∃ T, (S.truncate na' sm).1 = T := ⟨_, rfl⟩
          obtain ⟨er, her⟩ : ∃ er, (S.truncate na' sm).2 = er := ⟨_, rfl⟩
          rw [hT, her] at QT HV
          rw [hT] at HUP HSZ
          clear her hT
          have hnn := HI.out.n
          have e3 : ((er : Int) == 0) = decide (er = 0) := by
            by_cases h : er = 0
            · subst h; rfl
            · simp [h]
          by_cases h0 : er = 0
          · subst h0
            have HLK := Lib.hid (fun (W : World) (h : W.heap[mk]? = some om) => (HI.out.map W h).look na' hza)
            have HV' := HV.out
            rw [if_pos rfl] at HV'
            have HV2 := Lib.hid HV'
            clear HV' HV e3
            obtain ⟨kv, hkv⟩ : ∃ kv, K na'.data.toList = kv := ⟨_, rfl⟩
            rw [hkv] at HLK
            rcases kv with _ | ⟨sy, lo⟩
            · have HV3 := HV2.out
              rw [show (fun y => if y = na'.data.toList then (K y).map fun v => (([] : List UInt8), v.2) else K y) = K from funext fun y => by
                by_cases e : y = na'.data.toList
                · rw [if_pos e, e, hkv]; rfl
                · rw [if_neg e]] at HV3
              have HV4 := Lib.hid HV3
              clear HV3 HV2 hkv
              go_wp2_with (first
                | (go_at_call 21; go_must (with_reducible refine (HSM'.out _).mono ?_); rintro e w7 ⟨rfl, hb⟩; have H7 := Lib.hid (H6.out.next hb); clear hb)
                | (go_at_call 20; go_must (with_reducible refine (QT.out _ H7.out).mono ?_); rintro e w8 ⟨rfl, hq⟩; have H8 := Lib.hid hq; have hlk := HLK.out _ (H8.out.at (x := (mk, om)) (by simp)); simp only [Option.getD_none, Option.getD_some, Option.isSome_none, Option.isSome_some, keptV] at hlk; clear hq))
              exact ⟨⟨k + 1, _, mk, n, om, K, by omega, by omega, by go_num, rfl, ⟨(H8.out.next (by first | exact Below.refl _ _ | exact (Below.refl _ _).alloc (Nat.le_refl _) _)).less (by simp), HI.out.map, HV4.out, HI.out.short, HUP.out, HSZ.out, by omega⟩⟩, by simp [intOf]; omega⟩
            · have HV3 := HV2.out
              rw [show (fun y => if y = na'.data.toList then (K y).map fun v => (([] : List UInt8), v.2) else K y) = kput K na'.data.toList ([], lo) from funext fun y => by
                by_cases e : y = na'.data.toList
                · rw [if_pos e, e, hkv, kput_same]; rfl
                · rw [if_neg e, kput_other _ _ e]] at HV3
              have HV4 := Lib.hid HV3
              clear HV3 HV2 hkv
              go_wp2_with (first
                | (go_at_call 21; go_must (with_reducible refine (HSM'.out _).mono ?_); rintro e w7 ⟨rfl, hb⟩; have H7 := Lib.hid (H6.out.next hb); clear hb)
                | (go_at_call 20; go_must (with_reducible refine (QT.out _ H7.out).mono ?_); rintro e w8 ⟨rfl, hq⟩; have H8 := Lib.hid hq; have hlk := HLK.out _ (H8.out.at (x := (mk, om)) (by simp)); simp only [Option.getD_none, Option.getD_some, Option.isSome_none, Option.isSome_some, keptV] at hlk; have H9 := Lib.hid (hq.next (((Below.refl _ w8).alloc (Nat.le_refl _) (.cells #[.string ⟨#[]⟩, .bool lo] 49)))); clear hq)
                | (at_mapUpdate; go_loud (refine wpList_put_kept _ rfl _ _ _ rfl mk n K na' ([], lo) rfl rfl rfl (HI.out.map _ (H9.out.at (x := (mk, om)) (by simp))) (by omega) hza ?_); intro w10 h10 g10; have H10 := Lib.hid h10; have G10 := Lib.hid g10; clear h10 g10))
              exact ⟨⟨k + 1, _, mk, n + 1, _, _, by omega, by omega, by go_num, rfl, ⟨((H9.out.less (bs' := [(mk, om)]) (by simp)).turn G10.out (Array.getElem?_eq_getElem H10.out.lt) (by simp)), H10.out.obj (Array.getElem?_eq_getElem H10.out.lt), HV4.out, kshort_put HI.out.short (by simpa using hza) _, HUP.out, HSZ.out, by omega⟩⟩, by simp [intOf]; omega⟩
          · rw [decide_eq_false h0] at e3
            have HV' := HV.out
            rw [if_neg h0] at HV'
            go_wp2_with (first
              | (go_at_call 21; go_must (with_reducible refine (HSM'.out _).mono ?_); rintro e w7 ⟨rfl, hb⟩; have H7 := Lib.hid (H6.out.next hb); clear hb)
              | (go_at_call 20; go_must (with_reducible refine (QT.out _ H7.out).mono ?_); rintro e w8 ⟨rfl, hq⟩; have H8 := Lib.hid hq; clear hq))
            exact ⟨⟨k + 1, _, mk, n, om, K, by omega, by omega, by go_num, rfl, ⟨H8.out.less (by simp), HI.out.map, HV', HI.out.short, HUP.out, HSZ.out, by omega⟩⟩, by simp [intOf]; omega⟩
      · subst h
        as_aux_lemma =>
          have QT := Lib.hid (fun (W : World) (h : FlockL w W 0 [(p, S)] [(xb, ob), (mk, om)]) => keep_sync h HF.out na' hza)
          have HV := Lib.hid (keeps_sync HI.out.up HI.out.good HI.out.inv na')
          have HUP : Hid (Up (S.sync na').1) := Lib.hid (up_change HI.out.up na' syncG)
          have HSZ := Lib.hid (sized_up (sized_sync HI.out.sized na'))
          obtain ⟨T, hT⟩ : ∃ T, (S.sync na').1 = T := ⟨_, rfl⟩
          obtain ⟨er, her⟩ : ∃ er, (S.sync na').2 = er := ⟨_, rfl⟩
          rw [hT, her] at QT HV
          rw [hT] at HUP HSZ
          clear her hT
          have HFT := Lib.hid (HSZ.out.fit (by omega) (Nat.le_trans (Nat.mul_le_mul (show k + 1 ≤ 50 by omega) hq) (by decide)) (by omega))
          have QR := Lib.hid (fun (W : World) (bs : List (Nat × Obj)) (h : FlockL w W 0 [(p, T)] bs) => flock_readAt h.flock 0 Nat.zero_lt_one HFT.out na' 0 10000 hza (by decide) (by decide) (by decide))
          obtain ⟨rd, hrd⟩ : ∃ rd, (T.readAt na' 0 10000).1 = rd := ⟨_, rfl⟩
          obtain ⟨rc, hrc⟩ : ∃ rc, (T.readAt na' 0 10000).2 = rc := ⟨_, rfl⟩
          rw [hrd] at HV
          simp only [List.getElem_cons_zero] at QR
          rw [hrd, hrc] at QR
          clear hrd hrc
          have hnn := HI.out.n
          have e3 : ((er : Int) == 0) = decide (er = 0) := by
            by_cases h : er = 0
            · subst h; rfl
            · simp [h]
          by_cases h0 : er = 0
          · subst h0
            have HLK := Lib.hid (fun (W : World) (h : W.heap[mk]? = some om) => (HI.out.map W h).look na' hza)
            have HV' := HV.out
            rw [if_pos rfl] at HV'
            have HV2 := Lib.hid HV'
            clear HV' HV e3
            obtain ⟨kv, hkv⟩ : ∃ kv, K na'.data.toList = kv := ⟨_, rfl⟩
            rw [hkv] at HLK
            rcases kv with _ | ⟨sy, lo⟩
            · have HV3 := HV2.out
              rw [show (fun y => if y = na'.data.toList then (K y).map fun v => (rd, v.2) else K y) = K from funext fun y => by
                by_cases e : y = na'.data.toList
                · rw [if_pos e, e, hkv]; rfl
                · rw [if_neg e]] at HV3
              have HV4 := Lib.hid HV3
              clear HV3 HV2 hkv
              go_wp2_with (go_at_call 22; go_must (with_reducible refine (QT.out _ H6.out).mono ?_); rintro e w8 ⟨rfl, hq⟩; have H8 := Lib.hid hq; have hlk := HLK.out _ (H8.out.at (x := (mk, om)) (by simp)); simp only [Option.getD_none, Option.getD_some, Option.isSome_none, Option.isSome_some, keptV] at hlk; clear hq)
              exact ⟨⟨k + 1, _, mk, n, om, K, by omega, by omega, by go_num, rfl, ⟨(H8.out.next (by first | exact Below.refl _ _ | exact (Below.refl _ _).alloc (Nat.le_refl _) _)).less (by simp), HI.out.map, HV4.out, HI.out.short, HUP.out, HSZ.out, by omega⟩⟩, by simp [intOf]; omega⟩
            · have HV3 := HV2.out
              rw [show (fun y => if y = na'.data.toList then (K y).map fun v => (rd, v.2) else K y) = kput K na'.data.toList (rd, lo) from funext fun y => by
                by_cases e : y = na'.data.toList
                · rw [if_pos e, e, hkv, kput_same]; rfl
                · rw [if_neg e, kput_other _ _ e]] at HV3
              have HV4 := Lib.hid HV3
              clear HV3 HV2 hkv
              go_wp2_with (first
                | (go_at_call 22; go_must (with_reducible refine (QT.out _ H6.out).mono ?_); rintro e w8 ⟨rfl, hq⟩; have H8 := Lib.hid (hq.next ((Below.refl _ w8).alloc (Nat.le_refl _) (.cells #[.string (Fld.strO sy), .bool lo] 49))); have hlk := HLK.out _ (hq.at (x := (mk, om)) (by simp)); simp only [Option.getD_none, Option.getD_some, Option.isSome_none, Option.isSome_some, keptV] at hlk; have H9 := Lib.hid (hq.next (((Below.refl _ w8).alloc (Nat.le_refl _) (.cells #[.string (Fld.strO rd), .bool lo] 49)))); clear hq)
                | (go_at_call 23; go_must (with_reducible refine (QR.out _ _ H8.out).mono ?_); rintro e w9 ⟨rfl, rfl⟩)
                | (at_mapUpdate; go_loud (refine wpList_put_kept _ rfl _ _ _ rfl mk n K na' (rd, lo) rfl rfl rfl (HI.out.map _ (H9.out.at (x := (mk, om)) (by simp))) (by omega) hza ?_); intro w10 h10 g10; have H10 := Lib.hid h10; have G10 := Lib.hid g10; clear h10 g10))
              exact ⟨⟨k + 1, _, mk, n + 1, _, _, by omega, by omega, by go_num, rfl, ⟨((H9.out.less (bs' := [(mk, om)]) (by simp)).turn G10.out (Array.getElem?_eq_getElem H10.out.lt) (by simp)), H10.out.obj (Array.getElem?_eq_getElem H10.out.lt), HV4.out, kshort_put HI.out.short (by simpa using hza) _, HUP.out, HSZ.out, by omega⟩⟩, by simp [intOf]; omega⟩
          · rw [decide_eq_false h0] at e3
            have HV' := HV.out
            rw [if_neg h0] at HV'
            go_wp2_with (go_at_call 22; go_must (with_reducible refine (QT.out _ H6.out).mono ?_); rintro e w8 ⟨rfl, hq⟩; have H8 := Lib.hid hq; clear hq)
            exact ⟨⟨k + 1, _, mk, n, om, K, by omega, by omega, by go_num, rfl, ⟨H8.out.less (by simp), HI.out.map, HV', HI.out.short, HUP.out, HSZ.out, by omega⟩⟩, by simp [intOf]; omega⟩
      · subst h
        as_aux_lemma =>
          have QT := Lib.hid (fun (W : World) (h : FlockL w W 0 [(p, S)] [(xb, ob), (mk, om)]) => keep_sync h HF.out na' hza)
          have HV := Lib.hid (keeps_sync HI.out.up HI.out.good HI.out.inv na')
          have HUP : Hid (Up (S.sync na').1) := Lib.hid (up_change HI.out.up na' syncG)
          have HSZ := Lib.hid (sized_up (sized_sync HI.out.sized na'))
          obtain ⟨T, hT⟩ : ∃ T, (S.sync na').1 = T := ⟨_, rfl⟩
          obtain ⟨er, her⟩ : ∃ er, (S.sync na').2 = er := ⟨_, rfl⟩
          rw [hT, her] at QT HV
          rw [hT] at HUP HSZ
          clear her hT
          have HFT := Lib.hid (HSZ.out.fit (by omega) (Nat.le_trans (Nat.mul_le_mul (show k + 1 ≤ 50 by omega) hq) (by decide)) (by omega))
          have QR := Lib.hid (fun (W : World) (bs : List (Nat × Obj)) (h : FlockL w W 0 [(p, T)] bs) => flock_readAt h.flock 0 Nat.zero_lt_one HFT.out na' 0 10000 hza (by decide) (by decide) (by decide))
          obtain ⟨rd, hrd⟩ : ∃ rd, (T.readAt na' 0 10000).1 = rd := ⟨_, rfl⟩
          obtain ⟨rc, hrc⟩ : ∃ rc, (T.readAt na' 0 10000).2 = rc := ⟨_, rfl⟩
          rw [hrd] at HV
          simp only [List.getElem_cons_zero] at QR
          rw [hrd, hrc] at QR
          clear hrd hrc
          have hnn := HI.out.n
          have e3 : ((er : Int) == 0) = decide (er = 0) := by
            by_cases h : er = 0
            · subst h; rfl
            · simp [h]
          by_cases h0 : er = 0
          · subst h0
            have HLK := Lib.hid (fun (W : World) (h : W.heap[mk]? = some om) => (HI.out.map W h).look na' hza)
            have HV' := HV.out
            rw [if_pos rfl] at HV'
            have HV2 := Lib.hid HV'
            clear HV' HV e3
            obtain ⟨kv, hkv⟩ : ∃ kv, K na'.data.toList = kv := ⟨_, rfl⟩
            rw [hkv] at HLK
            rcases kv with _ | ⟨sy, lo⟩
            · have HV3 := HV2.out
              rw [show (fun y => if y = na'.data.toList then (K y).map fun v => (rd, v.2) else K y) = K from funext fun y => by
                by_cases e : y = na'.data.toList
                · rw [if_pos e, e, hkv]; rfl
                · rw [if_neg e]] at HV3
              have HV4 := Lib.hid HV3
              clear HV3 HV2 hkv
              go_wp2_with (go_at_call 22; go_must (with_reducible refine (QT.out _ H6.out).mono ?_); rintro e w8 ⟨rfl, hq⟩; have H8 := Lib.hid hq; have hlk := HLK.out _ (H8.out.at (x := (mk, om)) (by simp)); simp only [Option.getD_none, Option.getD_some, Option.isSome_none, Option.isSome_some, keptV] at hlk; clear hq)
              exact ⟨⟨k + 1, _, mk, n, om, K, by omega, by omega, by go_num, rfl, ⟨(H8.out.next (by first | exact Below.refl _ _ | exact (Below.refl _ _).alloc (Nat.le_refl _) _)).less (by simp), HI.out.map, HV4.out, HI.out.short, HUP.out, HSZ.out, by omega⟩⟩, by simp [intOf]; omega⟩
            · have HV3 := HV2.out
              rw [show (fun y => if y = na'.data.toList then (K y).map fun v => (rd, v.2) else K y) = kput K na'.data.toList (rd, lo) from funext fun y => by
                by_cases e : y = na'.data.toList
                · rw [if_pos e, e, hkv, kput_same]; rfl
                · rw [if_neg e, kput_other _ _ e]] at HV3
              have HV4 := Lib.hid HV3
              clear HV3 HV2 hkv
              go_wp2_with (first
                | (go_at_call 22; go_must (with_reducible refine (QT.out _ H6.out).mono ?_); rintro e w8 ⟨rfl, hq⟩; have H8 := Lib.hid (hq.next ((Below.refl _ w8).alloc (Nat.le_refl _) (.cells #[.string (Fld.strO sy), .bool lo] 49))); have hlk := HLK.out _ (hq.at (x := (mk, om)) (by simp)); simp only [Option.getD_none, Option.getD_some, Option.isSome_none, Option.isSome_some, keptV] at hlk; have H9 := Lib.hid (hq.next (((Below.refl _ w8).alloc (Nat.le_refl _) (.cells #[.string (Fld.strO rd), .bool lo] 49)))); clear hq)
                | (go_at_call 23; go_must (with_reducible refine (QR.out _ _ H8.out).mono ?_); rintro e w9 ⟨rfl, rfl⟩)
                | (at_mapUpdate; go_loud (refine wpList_put_kept _ rfl _ _ _ rfl mk n K na' (rd, lo) rfl rfl rfl (HI.out.map _ (H9.out.at (x := (mk, om)) (by simp))) (by omega) hza ?_); intro w10 h10 g10; have H10 := Lib.hid h10; have G10 := Lib.hid g10; clear h10 g10))
              exact ⟨⟨k + 1, _, mk, n + 1, _, _, by omega, by omega, by go_num, rfl, ⟨((H9.out.less (bs' := [(mk, om)]) (by simp)).turn G10.out (Array.getElem?_eq_getElem H10.out.lt) (by simp)), H10.out.obj (Array.getElem?_eq_getElem H10.out.lt), HV4.out, kshort_put HI.out.short (by simpa using hza) _, HUP.out, HSZ.out, by omega⟩⟩, by simp [intOf]; omega⟩
          · rw [decide_eq_false h0] at e3
            have HV' := HV.out
            rw [if_neg h0] at HV'
            go_wp2_with (go_at_call 22; go_must (with_reducible refine (QT.out _ H6.out).mono ?_); rintro e w8 ⟨rfl, hq⟩; have H8 := Lib.hid hq; clear hq)
            exact ⟨⟨k + 1, _, mk, n, om, K, by omega, by omega, by go_num, rfl, ⟨H8.out.less (by simp), HI.out.map, HV', HI.out.short, HUP.out, HSZ.out, by omega⟩⟩, by simp [intOf]; omega⟩
      · subst h
        as_aux_lemma =>
          have QC := Lib.hid (keep_syncDir H6.out HF.out)
          have HV := Lib.hid (keeps_syncDir HI.out.up HI.out.good HI.out.inv)
          have HUP := Lib.hid (up_syncDir HI.out.up)
          have HSZ := Lib.hid (sized_up (sized_syncDir HI.out.sized))
          obtain ⟨T, hT⟩ : ∃ T, (S.syncDir).1 = T := ⟨_, rfl⟩
          obtain ⟨er, her⟩ : ∃ er, (S.syncDir).2 = er := ⟨_, rfl⟩
          rw [hT, her] at QC
          rw [hT] at HV HUP HSZ
          clear her hT
          have HFT := Lib.hid (HSZ.out.fit (by omega) (Nat.le_trans (Nat.mul_le_mul (show k + 1 ≤ 50 by omega) hq) (by decide)) (by omega))
          have QA := Lib.hid (fun (W : World) (h : FlockL w W 0 [(p, T)] [(xb, ob), (mk, om)]) => keep_again h HUP.out.down HFT.out (HI.out.map W (h.at (x := (mk, om)) (by simp))))
          go_wp2_with (first
            | (go_at_call 24; go_must (with_reducible refine QC.out.mono ?_); rintro e w7 ⟨rfl, hq⟩; have H7 := Lib.hid hq; clear hq)
            | (go_at_call 25; go_must (with_reducible refine (QA.out _ H7.out).mono ?_); rintro e w8 ⟨m2, o2, rfl, h8, hq⟩; have H8 := Lib.hid h8; have H9 := Lib.hid hq; clear h8 hq))
          refine ⟨⟨k + 1, T, m2, T.fold.there.length, o2, _, by omega, by omega, by go_num, rfl, ⟨H9.out.less (by simp), H8.out.obj (H9.out.at (x := (m2, o2)) (by simp)), HV.out, ?_, HUP.out, HSZ.out, ?_⟩⟩, by simp [intOf]; omega⟩
          · intro x v hx
            rw [againT_eq] at hx
            split at hx
            · rename_i hf
              obtain ⟨pp, hp, rfl⟩ := foundB_mem.1 hf
              obtain ⟨vv, hvv⟩ := H9.out.flock.out 0 Nat.zero_lt_one
              exact Nat.le_trans (hvv.good.there.short pp hp) (by decide)
            · cases hx
          · exact Nat.le_trans (Fld.FS.there_length T.fold) HSZ.out.light.fold
      · subst h
        as_aux_lemma =>
          have QC := Lib.hid (keep_syncDir H6.out HF.out)
          have HV := Lib.hid (keeps_syncDir HI.out.up HI.out.good HI.out.inv)
          have HUP := Lib.hid (up_syncDir HI.out.up)
          have HSZ := Lib.hid (sized_up (sized_syncDir HI.out.sized))
          obtain ⟨T, hT⟩ : ∃ T, (S.syncDir).1 = T := ⟨_, rfl⟩
          obtain ⟨er, her⟩ : ∃ er, (S.syncDir).2 = er := ⟨_, rfl⟩
          rw [hT, her] at QC
          rw [hT] at HV HUP HSZ
          clear her hT
          have HFT := Lib.hid (HSZ.out.fit (by omega) (Nat.le_trans (Nat.mul_le_mul (show k + 1 ≤ 50 by omega) hq) (by decide)) (by omega))
          have QA := Lib.hid (fun (W : World) (h : FlockL w W 0 [(p, T)] [(xb, ob), (mk, om)]) => keep_again h HUP.out.down HFT.out (HI.out.map W (h.at (x := (mk, om)) (by simp))))
          go_wp2_with (first
            | (go_at_call 24; go_must (with_reducible refine QC.out.mono ?_); rintro e w7 ⟨rfl, hq⟩; have H7 := Lib.hid hq; clear hq)
            | (go_at_call 25; go_must (with_reducible refine (QA.out _ H7.out).mono ?_); rintro e w8 ⟨m2, o2, rfl, h8, hq⟩; have H8 := Lib.hid h8; have H9 := Lib.hid hq; clear h8 hq))
          refine ⟨⟨k + 1, T, m2, T.fold.there.length, o2, _, by omega, by omega, by go_num, rfl, ⟨H9.out.less (by simp), H8.out.obj (H9.out.at (x := (m2, o2)) (by simp)), HV.out, ?_, HUP.out, HSZ.out, ?_⟩⟩, by simp [intOf]; omega⟩
          · intro x v hx
            rw [againT_eq] at hx
            split at hx
            · rename_i hf
              obtain ⟨pp, hp, rfl⟩ := foundB_mem.1 hf
              obtain ⟨vv, hvv⟩ := H9.out.flock.out 0 Nat.zero_lt_one
              exact Nat.le_trans (hvv.good.there.short pp hp) (by decide)
            · cases hx
          · exact Nat.le_trans (Fld.FS.there_length T.fold) HSZ.out.light.fold
      · subst h
        as_aux_lemma =>
          have QC := Lib.hid (keep_rename H6.out HF.out na' nb' hza hzb)
          have HV := Lib.hid (keeps_rename HI.out.up HI.out.good HI.out.inv na' nb')
          have HUP := Lib.hid (up_rename HI.out.up na' nb')
          have HSZ := Lib.hid (sized_up (sized_rename HI.out.sized na' nb'))
          obtain ⟨T, hT⟩ : ∃ T, (S.rename na' nb').1 = T := ⟨_, rfl⟩
          obtain ⟨er, her⟩ : ∃ er, (S.rename na' nb').2 = er := ⟨_, rfl⟩
          rw [hT, her] at QC HV
          rw [hT] at HUP HSZ
          clear her hT
          have hnn := HI.out.n
          by_cases h0 : er = 0
          · subst h0
            by_cases hab : na' = nb'
            · have HV' := HV.out
              rw [if_neg (by simp [hab])] at HV'
              have e4 : (na'.toList == nb'.toList) = true := by rw [hab]; simp
              clear hab
              go_wp2_with (go_at_call 26; go_must (with_reducible refine QC.out.mono ?_); rintro e w7 ⟨rfl, hq⟩; have H7 := Lib.hid hq; clear hq)
              exact ⟨⟨k + 1, _, mk, n, om, K, by omega, by omega, by go_num, rfl, ⟨H7.out.less (by simp), HI.out.map, HV', HI.out.short, HUP.out, HSZ.out, by omega⟩⟩, by simp [intOf]; omega⟩
            · have HV' := HV.out
              rw [if_pos ⟨rfl, hab⟩] at HV'
              have e4 : (na'.toList == nb'.toList) = false := by rw [toList_beq]; exact decide_eq_false hab
              clear hab
              go_wp2_with (first
                | (go_at_call 26; go_must (with_reducible refine QC.out.mono ?_); rintro e w7 ⟨rfl, hq⟩; have H7 := Lib.hid hq; clear hq)
                | (at_mapUpdate; first
                  | (refine wpList_put_kept _ rfl _ _ _ rfl mk (n + 1) (kput K na'.data.toList ([], true)) nb' ([], true) rfl rfl rfl H8.out (by omega) hzb ?_; intro w9 h9 g9; have H9 := Lib.hid h9; have G9 := Lib.hid g9; clear h9 g9)
                  | (refine wpList_put_kept _ rfl _ _ _ rfl mk n K na' ([], true) rfl rfl rfl (HI.out.map _ (H7.out.at (x := (mk, om)) (by simp))) (by omega) hza ?_; intro w8 h8 g8; have H8 := Lib.hid h8; have G8 := Lib.hid g8; clear h8 g8)))
              exact ⟨⟨k + 1, _, mk, n + 1 + 1, _, _, by omega, by omega, by go_num, rfl, ⟨(((H7.out.less (bs' := [(mk, om)]) (by simp)).turn G8.out (Array.getElem?_eq_getElem H8.out.lt) (by simp)).turn G9.out (Array.getElem?_eq_getElem H9.out.lt) (by simp)), H9.out.obj (Array.getElem?_eq_getElem H9.out.lt), HV', kshort_put (kshort_put HI.out.short (by simpa using hza) _) (by simpa using hzb) _, HUP.out, HSZ.out, by omega⟩⟩, by simp [intOf]; omega⟩
          · have e3 : ((er : Int) == 0) = false := by simpa using h0
            have HV' := HV.out
            rw [if_neg (fun h => h0 h.1)] at HV'
            go_wp2_with (go_at_call 26; go_must (with_reducible refine QC.out.mono ?_); rintro e w7 ⟨rfl, hq⟩; have H7 := Lib.hid hq; clear hq)
            exact ⟨⟨k + 1, _, mk, n, om, K, by omega, by omega, by go_num, rfl, ⟨H7.out.less (by simp), HI.out.map, HV', HI.out.short, HUP.out, HSZ.out, by omega⟩⟩, by simp [intOf]; omega⟩
      · subst h
        as_aux_lemma =>
          have QC := Lib.hid (keep_remove H6.out HF.out na' hza)
          have HV := Lib.hid (keeps_remove HI.out.up HI.out.inv na')
          have HUP := Lib.hid (up_remove HI.out.up na')
          have HSZ := Lib.hid (sized_up (sized_remove HI.out.sized na'))
          obtain ⟨T, hT⟩ : ∃ T, (S.remove na').1 = T := ⟨_, rfl⟩
          obtain ⟨er, her⟩ : ∃ er, (S.remove na').2 = er := ⟨_, rfl⟩
          rw [hT, her] at QC HV
          rw [hT] at HUP HSZ
          clear her hT
          have hnn := HI.out.n
          by_cases h0 : er = 0
          · subst h0
            go_wp2_with (first
              | (go_at_call 27; go_must (with_reducible refine QC.out.mono ?_); rintro e w7 ⟨rfl, hq⟩; have H7 := Lib.hid hq; clear hq)
              | (at_mapUpdate; refine wpList_put_kept _ rfl _ _ _ rfl mk n K na' ([], true) rfl rfl rfl (HI.out.map _ (H7.out.at (x := (mk, om)) (by simp))) (by omega) hza ?_; intro w8 h8 g8; have H8 := Lib.hid h8; have G8 := Lib.hid g8; clear h8 g8))
            exact ⟨⟨k + 1, _, mk, n + 1, _, _, by omega, by omega, by go_num, rfl, ⟨((H7.out.less (bs' := [(mk, om)]) (by simp)).turn G8.out (Array.getElem?_eq_getElem H8.out.lt) (by simp)), H8.out.obj (Array.getElem?_eq_getElem H8.out.lt), HV.out, kshort_put HI.out.short (by simpa using hza) _, HUP.out, HSZ.out, by omega⟩⟩, by simp [intOf]; omega⟩
          · have e3 : ((er : Int) == 0) = false := by simpa using h0
            have HV' := HV.out
            rw [if_neg h0] at HV'
            go_wp2_with (go_at_call 27; go_must (with_reducible refine QC.out.mono ?_); rintro e w7 ⟨rfl, hq⟩; have H7 := Lib.hid hq; clear hq)
            exact ⟨⟨k + 1, _, mk, n, om, K, by omega, by omega, by go_num, rfl, ⟨H7.out.less (by simp), HI.out.map, HV', HI.out.short, HUP.out, HSZ.out, by omega⟩⟩, by simp [intOf]; omega⟩
      · as_aux_lemma =>
          obtain ⟨g0, g1, g6, g7, g8, g9, g10, g11, g12⟩ := h
          have z0 : ((x16 : Int) == 0) = false := by simpa using g0
          have z1 : ((x16 : Int) == 1) = false := by simp; omega
          have z6 : ((x16 : Int) == 6) = false := by simp; omega
          have z7 : ((x16 : Int) == 7) = false := by simp; omega
          have z8 : ((x16 : Int) == 8) = false := by simp; omega
          have z9 : ((x16 : Int) == 9) = false := by simp; omega
          have z10 : ((x16 : Int) == 10) = false := by simp; omega
          have z11 : ((x16 : Int) == 11) = false := by simp; omega
          have z12 : ((x16 : Int) == 12) = false := by simp; omega
          have hul : u0 ≤ 900 * 90000 := by rw [← HU0.out]; exact HF.out.1.used
          have hxq : raw.size ≤ 140737488355328 := Nat.le_trans ok3 (by decide)
          have HROOM := Lib.hid HI.out.sized.room
          have QA := Lib.hid (fun (W : World) (h : FlockL w W 0 [(p, S)] [(xb, ob), (mk, om)]) => keep_append1 h HF.out na' raw hza hxq)
          have HV := Lib.hid (keeps_append HI.out.up HI.out.good HI.out.inv na' raw.data.toList)
          have HS := append_says HI.out.up HI.out.good na' raw.data.toList
          have HUP : Hid (Up (S.append na' raw.data.toList).1) := Lib.hid (up_change HI.out.up na' _)
          have HSZ := Lib.hid (sized_append HI.out.sized na' raw.data.toList)
          obtain ⟨T, hT⟩ : ∃ T, (S.append na' raw.data.toList).1 = T := ⟨_, rfl⟩
          obtain ⟨er, her⟩ : ∃ er, (S.append na' raw.data.toList).2 = er := ⟨_, rfl⟩
          rw [hT, her] at QA HS
          rw [hT] at HV HUP HSZ
          rw [HROOM.out, HU0.out] at HS
          clear her hT
          have HSZ2 : Hid (T.Sized (3 * (k + 1)) ((k + 1) * q) q) := Lib.hid ⟨HSZ.out.light.mono (by omega) (by rw [Nat.succ_mul]; exact Nat.le_refl _), HSZ.out.room⟩
          have huT := HUP.out.used
          obtain ⟨u1, hu1⟩ : ∃ u1, T.used = u1 := ⟨_, rfl⟩
          rw [hu1] at huT HS
          have QU2 := Lib.hid (show ∀ W (bs : List (Nat × Obj)), FlockL w W 0 [(p, T)] bs → Calls Tryz.prog 19 #[.pointer (some ⟨p, 0, none⟩)] W fun e w' => e = .returned (.int .i64 (u1 : Int)) ∧ W = w' from fun W bs h => h.flock.read 0 Nat.zero_lt_one fun v hv => (used_any hv).mono fun e w' ⟨he, hw⟩ => ⟨by rw [he]; exact congrArg (fun k : Nat => Ending.returned (.int .i64 (k : Int))) huT, hw⟩)
          have hrl : raw.data.toList.length = raw.size := by simp
          rw [hrl] at HS
          obtain ⟨s1, s2, s3⟩ := HS
          obtain ⟨rm, hrm⟩ : ∃ rm, q - u0 = rm := ⟨_, rfl⟩
          have m1 : max 0 ((q : Int) - (u0 : Int)) = (rm : Int) := by omega
          obtain ⟨mu, hmu⟩ : ∃ mu, max u0 q = mu := ⟨_, rfl⟩
          have m3 : max (u0 : Int) (q : Int) = (mu : Int) := by omega
          rw [hrm] at s1 s2
          rw [hmu] at s3
          have t1 : decide ((mu : Int) < (u1 : Int)) = false := decide_eq_false (by omega)
          have t1' : decide (mu < u1) = false := decide_eq_false (by omega)
          have hnn := HI.out.n
          have hfin : ∀ W, FlockL w W 0 [(p, T)] [(xb, ob), (mk, om)] → KeepI w W p T (k + 1) q mk n om K := fun W h => ⟨h.less (by simp), HI.out.map, HV.out, HI.out.short, HUP.out, HSZ2.out, by omega⟩
          have HFIN := Lib.hid hfin
          have hs1 := Lib.hid s1
          have hs2 := Lib.hid s2
          clear s1 s2 s3 hfin huT hu1 hmu
          have tt : ∀ (A B : Nat) (b : Bool), decide (A < B) = b → decide ((A : Int) < (B : Int)) = b := fun A B b h => by rw [← h, decide_eq_decide]; omega
          have tl : ∀ (A B : Nat) (b : Bool), decide (A ≤ B) = b → decide ((A : Int) ≤ (B : Int)) = b := fun A B b h => by rw [← h, decide_eq_decide]; omega
          clear hrm
          by_cases h0 : er = 0
          · subst h0
            have r1' : decide (rm < raw.size) = false := decide_eq_false (by have := hs1.out rfl; omega)
            have r1 := tt _ _ _ r1'
            clear tt tl hs1 hs2
            go_wp2_with (first
              | (go_at_call 13; go_must (with_reducible refine (QA.out _ H6.out).mono ?_); rintro e w7 ⟨rfl, hq⟩; have H7 := Lib.hid hq; clear hq)
              | (go_at_call 19; go_must (with_reducible refine (QU2.out _ _ H7.out).mono ?_); rintro e w8 ⟨rfl, rfl⟩))
            exact ⟨⟨k + 1, _, mk, n, om, K, by omega, by omega, by go_num, rfl, HFIN.out _ H7.out⟩, by simp [intOf]; omega⟩
          · by_cases h10 : er = 10
            · subst h10
              obtain ⟨q1, q2⟩ := hs2.out rfl
              have r1' : decide (raw.size ≤ rm) = false := decide_eq_false (by omega)
              have r1 := tl _ _ _ r1'
              have r2' : decide (u1 < q) = false := decide_eq_false (by omega)
              have r2 := tt _ _ _ r2'
              clear tt tl hs1 hs2 q1 q2
              go_wp2_with (first
                | (go_at_call 13; go_must (with_reducible refine (QA.out _ H6.out).mono ?_); rintro e w7 ⟨rfl, hq⟩; have H7 := Lib.hid hq; clear hq)
                | (go_at_call 19; go_must (with_reducible refine (QU2.out _ _ H7.out).mono ?_); rintro e w8 ⟨rfl, rfl⟩))
              exact ⟨⟨k + 1, _, mk, n, om, K, by omega, by omega, by go_num, rfl, HFIN.out _ H7.out⟩, by simp [intOf]; omega⟩
            · have r1 : ((er : Int) == 0) = false := by simpa using h0
              have r2 : ((er : Int) == 10) = false := by simp; omega
              clear tt tl hs1 hs2 h0 h10
              go_wp2_with (first
                | (go_at_call 13; go_must (with_reducible refine (QA.out _ H6.out).mono ?_); rintro e w7 ⟨rfl, hq⟩; have H7 := Lib.hid hq; clear hq)
                | (go_at_call 19; go_must (with_reducible refine (QU2.out _ _ H7.out).mono ?_); rintro e w8 ⟨rfl, rfl⟩))
              exact ⟨⟨k + 1, _, mk, n, om, K, by omega, by omega, by go_num, rfl, HFIN.out _ H7.out⟩, by simp [intOf]; omega⟩
    · have hfit := HI.out.fit hk hq
      have HF := Lib.hid hfit
      have hnn := HI.out.n
      have QF := Lib.hid (keep_files HI.out.flock 0 Nat.zero_lt_one hfit)
      obtain ⟨fl, hfl⟩ : ∃ fl, S.files = fl := ⟨_, rfl⟩
      simp only [List.getElem_cons_zero] at QF
      rw [hfl] at QF
      obtain ⟨fm, hfm⟩ : ∃ fm, fl.length = fm := ⟨_, rfl⟩
      rw [hfm] at QF
      have QC := Lib.hid (fun (W : World) (bs : List (Nat × Obj)) (h : FlockL w W 0 [(p, S)] bs) => keep_copy (h.mono (Nat.zero_le 1)) 0 Nat.zero_lt_one Nat.zero_lt_one hfit)
      simp only [List.getElem_cons_zero, List.cons_append, List.nil_append] at QC
      have QR := Lib.hid (show ∀ (W : World) (bs : List (Nat × Obj)) (c : Nat), FlockL w W 1 [(p, S), (c, S)] bs → Calls Tryz.prog 14 #[.pointer (some ⟨c, 0, none⟩), .slice (some ⟨W.heap.size, 0, none⟩) 31 31] (W.alloc (.cells #[.int .u16 60000, .int .u16 60000, .int .u16 60000, .int .u16 60000, .int .u16 60000, .int .u16 60000, .int .u16 60000, .int .u16 60000, .int .u16 60000, .int .u16 60000, .int .u16 60000, .int .u16 60000, .int .u16 60000, .int .u16 60000, .int .u16 60000, .int .u16 60000, .int .u16 60000, .int .u16 60000, .int .u16 60000, .int .u16 60000, .int .u16 60000, .int .u16 60000, .int .u16 60000, .int .u16 60000, .int .u16 60000, .int .u16 60000, .int .u16 60000, .int .u16 60000, .int .u16 60000, .int .u16 60000, .int .u16 60000] 57)) fun e w' => e = .returned (.tuple #[]) ∧ FlockL w w' 1 [(p, S), (c, S.restart (List.replicate 31 60000))] bs from fun W bs c h =>
        (keep_restart (h.boxed (.cells #[.int .u16 60000, .int .u16 60000, .int .u16 60000, .int .u16 60000, .int .u16 60000, .int .u16 60000, .int .u16 60000, .int .u16 60000, .int .u16 60000, .int .u16 60000, .int .u16 60000, .int .u16 60000, .int .u16 60000, .int .u16 60000, .int .u16 60000, .int .u16 60000, .int .u16 60000, .int .u16 60000, .int .u16 60000, .int .u16 60000, .int .u16 60000, .int .u16 60000, .int .u16 60000, .int .u16 60000, .int .u16 60000, .int .u16 60000, .int .u16 60000, .int .u16 60000, .int .u16 60000, .int .u16 60000, .int .u16 60000] 57)) 1 (by simp) (Nat.le_refl _) hfit (row16_laid (List.replicate 31 60000) (by decide) W) (by decide) (fun b o m c e => by cases e; exact ⟨.inl ⟨_, List.mem_cons_self ..⟩, by simp⟩) (fun i => num_small (by decide) i)).mono fun e w' ⟨he, hw⟩ => ⟨he, hw.less fun x hx => List.mem_cons_of_mem _ hx⟩)
      have hRF : fm < 14 → (S.restart (List.replicate 31 60000)).files = fl := fun h => by
        have hA : S.fold.A.length ≤ 900 := Nat.le_trans (Nat.le_trans (Nat.le_add_left _ _) (Nat.le_add_right _ _)) hfit.1.fold
        have hup := HI.out.up
        have hfe : S.files = S.fold.there.map fun p => (p.1, (S.file p.2).R) := by unfold DS.files; rw [if_neg (by rw [hup.down]; simp)]
        have hth : S.fold.there.length < 14 := by rw [← hfm, ← hfl, hfe, List.length_map] at h; exact h
        have hnum : ∀ i, i < 31 → num (List.replicate 31 60000) i = 60000 := fun i hi => by
          unfold num
          rw [List.getD, List.getElem?_replicate, if_pos hi]
          rfl
        rw [restart_full HI.out.good _ (by rw [hnum 0 (by decide)]; omega) (fun j hj x => by rw [hnum _ (by omega)]; exact Nat.le_trans (hfit.1.acts x) (by decide)), ← hfe, hfl]
      have hfr : (S.restart (List.replicate 31 60000)).Fit := (sized_restart HI.out.sized _).fit (by omega) (Nat.le_trans (Nat.mul_le_mul hk hq) (by decide)) (by omega)
      have QF2 := Lib.hid (fun (W : World) (bs : List (Nat × Obj)) (c : Nat) (h : FlockL w W 1 [(p, S), (c, S.restart (List.replicate 31 60000))] bs) => keep_files h 1 (by simp) hfr)
      simp only [List.getElem_cons_zero, List.getElem_cons_succ] at QF2
      obtain ⟨R6, hR6⟩ : ∃ R6, S.restart (List.replicate 31 60000) = R6 := ⟨_, rfl⟩
      rw [hR6] at QR hRF QF2
      clear hR6 hfr
      obtain ⟨nad, ncc, hnv, hncell⟩ := HNV.out
      have hnm : nm = nl.length := by cases hnv; rfl
      obtain ⟨mm, hmm⟩ : ∃ mm, min nm 30 = mm := ⟨_, rfl⟩
      have m1 : min (nm : Int) 30 = (mm : Int) := by omega
      have m2 : mm ≤ nm := by omega
      have m3 : (mm : Int) ≤ (nc : Int) := by omega
      have m4 : mm ≤ nc := by omega
      have hml : (nl.take mm).length = mm := by rw [List.length_take]; omega
      have h16 : ∀ i, num (nl.take mm) i ≤ 65535 := fun i => num_small (fun x hx => by
        obtain ⟨j, hj, rfl⟩ := List.getElem_of_mem (List.mem_of_mem_take hx)
        obtain ⟨_, _, _, _, h⟩ := hncell j hj
        simpa [List.getD, hj] using h) i
      have QRL := Lib.hid (fun (W : World) (bs : List (Nat × Obj)) (h : FlockL w W 0 [(p, S)] bs) => keep_restart (lv := .slice na mm nc) (l := nl.take mm) h 0 Nat.zero_lt_one (Nat.le_refl _) hfit ⟨na, nc, by rw [hml], fun i hi => by
        rw [hml] at hi
        obtain ⟨b, o, hb, hcell, hle⟩ := hncell i (by omega)
        have hg : (nl.take mm).getD i 0 = nl.getD i 0 := by simp [List.getD, List.getElem?_take, hi]
        cases hnv
        rw [hg]
        exact ⟨b, o, hb, (h.below.cell (p := ⟨b, o + i, none⟩) (block_lt_of_cell hcell)).trans hcell, hle⟩⟩ (by omega) (fun b o m c e => by
          cases e
          have := HNB.out b o nm nc rfl
          exact ⟨.inr this, Nat.lt_of_lt_of_le this h.below.size⟩) h16)
      simp only [List.getElem_cons_zero, List.set_cons_zero] at QRL
      have HIR := Lib.hid (fun (x : ByteArray) (sy : List UInt8) (hx : K x.data.toList = some (sy, false)) => inv_restart HI.out.good HI.out.inv (nl.take mm) hx)
      have hfT : (S.restart (nl.take mm)).Fit := (sized_restart HI.out.sized _).fit (by omega) (Nat.le_trans (Nat.mul_le_mul hk hq) (by decide)) (by omega)
      obtain ⟨T, hT⟩ : ∃ T, S.restart (nl.take mm) = T := ⟨_, rfl⟩
      rw [hT] at QRL HIR hfT
      have HFT := Lib.hid hfT
      have HRF := Lib.hid hRF
      clear hT hfT hRF hmm hnm hml h16 hncell hnv hfl
      have e5 : (decide ((k : Int) < (l.length : Int)) = false ∧ decide (k < l.length) = false) ∨ (decide ((k : Int) < (l.length : Int)) = true ∧ decide (k < l.length) = true ∧ decide ((k : Int) < 50) = false ∧ decide (k < 50) = false) := by
        by_cases h : k < l.length
        · refine .inr ⟨decide_eq_true (by omega), decide_eq_true h, decide_eq_false ?_, decide_eq_false ?_⟩
          · intro h5; exact hlk ⟨h, by omega⟩
          · intro h5; exact hlk ⟨h, h5⟩
        · exact .inl ⟨decide_eq_false (by omega), decide_eq_false h⟩
      have hHF := fun (a b : ByteArray) (W : World) => Tryz.strings_HasPrefix a b W
      clear hfit hlk
      rcases e5 with ⟨f1, f2⟩ | ⟨f1, f2, f3, f4⟩
      all_goals
        by_cases hf14 : fm < 14
        · have f5 : decide ((fm : Int) < 14) = true := decide_eq_true (by omega)
          have f5' : decide (fm < 14) = true := decide_eq_true hf14
          have hrl := HRF.out hf14
          rw [hrl, hfm] at QF2
          clear hrl
          go_wp2_with (first
            | (go_at_call 28; first
              | ((with_reducible refine (QF2.out _ _ _ D3.out).mono ?_); rintro e w9 ⟨ad2, c2, bs2, rfl, hq, hr⟩; have D4 := Lib.hid hq; have HR2 := Lib.hid hr; clear hq hr)
              | ((with_reducible refine QF.out.mono ?_); rintro e w6 ⟨ad1, c1, bs1, rfl, hq, hr⟩; have D1 := Lib.hid hq; have HR1 := Lib.hid hr; clear hq hr))
            | (go_at_call 11; go_must (with_reducible refine (QC.out _ _ D1.out).mono ?_); rintro e w7 ⟨c, rfl, hq⟩; have D2 := Lib.hid hq; clear hq)
            | (go_at_call 14; first
              | ((with_reducible refine (QRL.out _ _ D5.out).mono ?_); rintro e w11 ⟨rfl, hq⟩; have D6 := Lib.hid hq; clear hq)
              | ((with_reducible refine (QR.out _ _ _ D2.out).mono ?_); rintro e w8 ⟨rfl, hq⟩; have D3 := Lib.hid hq; clear hq))
            | (go_at_call 29; go_loud (have hs := files_same fl (.slice ad2 fm c2) (.slice ad1 fm c1) w9 (HR2.out w9 fun x hx => D4.out.at (List.mem_append_left _ hx)) (HR1.out w9 fun x hx => D4.out.at (List.mem_append_right _ (List.mem_append_left _ hx))) (by omega)); go_must (with_reducible refine hs.mono ?_); rintro e w10 ⟨rfl, hb⟩; have D5 := Lib.hid ((D4.out.next hb).one); clear hb hs)
            | (at_range; refine wpList_range_kept rfl _ rfl mk n K rfl (HI.out.map _ (D6.out.at (x := (mk, om)) (by simp))) ?_; intro w12 D cnt0 r12 g12 z12))
          obtain ⟨or0, hor⟩ : ∃ o, w12.heap[w11.heap.size]? = some o := ⟨_, Array.getElem?_eq_getElem (by omega)⟩
          have hHL := (D6.out.less (bs' := [(mk, om)]) (by simp)).own ((Below.refl _ w11).grown g12 (Nat.le_refl _) (fun r e => by cases e)) hor (Nat.le_refl _)
          have hmr : mk < w11.heap.size := (Array.getElem?_eq_some_iff.1 (D6.out.at (x := (mk, om)) (by simp))).1
          have HL0 := Lib.hid hHL
          have HR0 := Lib.hid r12
          clear hHL g12 z12 r12 hor
          go_frame
          go_loopw [23, 25, 26] (fun _ _ _ wr => ∃ (left : Lit → Bool) (cnt : Nat) (o : Obj), FlockL w wr 0 [(p, T)] [(w11.heap.size, o), (mk, om)] ∧ KeptR wr mk w11.heap.size n K D left cnt) (fun _ _ _ wr => wr.rangeLeft mk w11.heap.size)
          case atStart => exact ⟨_, _, _, HL0.out, HR0.out⟩
          case round =>
            obtain ⟨left, cnt, o, hfl, hrg⟩ := hrel
            have HL := Lib.hid hfl
            have HRG := Lib.hid hrg
            clear hfl hrg HL0 HR0
            go_wp2_with (first
              | (at_next; refine wpList_next_kept rfl _ rfl mk w11.heap.size n K D left cnt rfl HRG.out ?_ ?_)
              | fail)
            · intro _
              go_wp2
              go_ret
              exact ⟨rfl, HL.out.below⟩
            · intro s sy
              refine ⟨?_, ?_⟩
              · intro w13 cnt1 hs hK hrg1 hlt hg1 hs1 hen
                have hsz := HI.out.short _ _ hK
                have hsz2 : s.size ≤ nameMax := by simpa using hsz
                obtain ⟨o1, ho1⟩ : ∃ o, w13.heap[w11.heap.size]? = some o := ⟨_, Array.getElem?_eq_getElem (by have := (Array.getElem?_eq_some_iff.1 (HL.out.at (x := (w11.heap.size, o)) (by simp))).1; omega)⟩
                have h13 := HL.out.turn hg1 ho1 (by simp; omega)
                have hlt13 : w11.heap.size < w13.heap.size := by have := (Array.getElem?_eq_some_iff.1 (HL.out.at (x := (w11.heap.size, o)) (by simp))).1; omega
                have HL13 := Lib.hid h13
                have HRG1 := Lib.hid hrg1
                have QRA := Lib.hid (fun (W : World) (bs : List (Nat × Obj)) (h : FlockL w W 0 [(p, T)] bs) => flock_readAt h.flock 0 Nat.zero_lt_one HFT.out s 0 10000 hsz2 (by decide) (by decide) (by decide))
                simp only [List.getElem_cons_zero] at QRA
                obtain ⟨ra, hra⟩ : ∃ ra, T.readAt s 0 10000 = ra := ⟨_, rfl⟩
                obtain ⟨rs, re⟩ := ra
                rw [hra] at QRA
                have hen' : (Instr.entry (.pointer (some ⟨w11.heap.size, 0, none⟩))).run Tryz.prog w13 = .ok (.tuple #[.string s, .agg #[.string (Fld.strO sy), .bool false]]) w13 := hen
                have hin : re = 0 ∧ sy <+: rs := by
                  have := HIR.out s sy hK
                  rw [hra] at this
                  exact this
                obtain ⟨rfl, hpre⟩ := hin
                have hhp : Lib.hasPrefix (ByteArray.mk rs.toArray).data.toList (Fld.strO sy).data.toList = true := by
                  rw [Fld.strO_data]
                  exact List.isPrefixOf_iff_prefix.2 hpre
                have QHP := fun W => hHF ⟨rs.toArray⟩ (Fld.strO sy) W
                simp only [hhp] at QHP
                clear hg1 hrg1 h13 ho1 hen hra hsz hs hK
                simp only at QRA
                have hxb : (w13.alloc (.cells #[.string (Fld.strO sy), .bool false] 49)).heap[wr.heap.size]? = some (.cells #[.string (Fld.strO sy), .bool false] 49 (0, 0)) := by rw [← hs1]; exact heap_alloc_new w13 _
                have hd0 : (w13.alloc (.cells #[.string (Fld.strO sy), .bool false] 49)).cell? ⟨wr.heap.size, 0, none⟩ = some (.string (Fld.strO sy)) := by rw [cell_of_row _ _ _ _ _ _ hxb]; rfl
                have hd1 : (w13.alloc (.cells #[.string (Fld.strO sy), .bool false] 49)).cell? ⟨wr.heap.size, 1, none⟩ = some (.bool false) := by rw [cell_of_row _ _ _ _ _ _ hxb]; rfl
                have HL15 := Lib.hid ((HL13.out.boxed (.cells #[.string (Fld.strO sy), .bool false] 49)).less (bs' := [(w11.heap.size, o1), (mk, om)]) (by simp))
                clear hxb
                go_wp2_with (first
                  | (go_at_call 23; go_must (with_reducible refine (QRA.out _ _ HL15.out).mono ?_); rintro e w16 ⟨rfl, rfl⟩)
                  | (go_at_call 30; go_must (with_reducible refine (QHP _).mono ?_); rintro e w17 ⟨rfl, rfl⟩)
                  | fail)
                exact ⟨⟨_, cnt1, o1, HL15.out, HRG1.out.kept ((HL15.out.at (x := (mk, om)) (by simp)).trans (HL13.out.at (x := (mk, om)) (by simp)).symm) ((HL15.out.at (x := (w11.heap.size, o1)) (by simp)).trans (HL13.out.at (x := (w11.heap.size, o1)) (by simp)).symm)⟩, by
                  rw [HRG.out.it.left_eq, (HRG1.out.kept ((HL15.out.at (x := (mk, om)) (by simp)).trans (HL13.out.at (x := (mk, om)) (by simp)).symm) ((HL15.out.at (x := (w11.heap.size, o1)) (by simp)).trans (HL13.out.at (x := (w11.heap.size, o1)) (by simp)).symm)).it.left_eq]; omega⟩
              · intro w13 cnt1 hs hK hrg1 hlt hg1 hs1 hen
                have hsz := HI.out.short _ _ hK
                have hsz2 : s.size ≤ nameMax := by simpa using hsz
                obtain ⟨o1, ho1⟩ : ∃ o, w13.heap[w11.heap.size]? = some o := ⟨_, Array.getElem?_eq_getElem (by have := (Array.getElem?_eq_some_iff.1 (HL.out.at (x := (w11.heap.size, o)) (by simp))).1; omega)⟩
                have h13 := HL.out.turn hg1 ho1 (by simp; omega)
                have hlt13 : w11.heap.size < w13.heap.size := by have := (Array.getElem?_eq_some_iff.1 (HL.out.at (x := (w11.heap.size, o)) (by simp))).1; omega
                have HL13 := Lib.hid h13
                have HRG1 := Lib.hid hrg1
                have QRA := Lib.hid (fun (W : World) (bs : List (Nat × Obj)) (h : FlockL w W 0 [(p, T)] bs) => flock_readAt h.flock 0 Nat.zero_lt_one HFT.out s 0 10000 hsz2 (by decide) (by decide) (by decide))
                simp only [List.getElem_cons_zero] at QRA
                obtain ⟨ra, hra⟩ : ∃ ra, T.readAt s 0 10000 = ra := ⟨_, rfl⟩
                obtain ⟨rs, re⟩ := ra
                rw [hra] at QRA
                have hen' : (Instr.entry (.pointer (some ⟨w11.heap.size, 0, none⟩))).run Tryz.prog w13 = .ok (.tuple #[.string s, .agg #[.string (Fld.strO sy), .bool true]]) w13 := hen
                clear hg1 hrg1 h13 ho1 hen hra hsz hs hK
                simp only at QRA
                have hxb : (w13.alloc (.cells #[.string (Fld.strO sy), .bool true] 49)).heap[wr.heap.size]? = some (.cells #[.string (Fld.strO sy), .bool true] 49 (0, 0)) := by rw [← hs1]; exact heap_alloc_new w13 _
                have hd0 : (w13.alloc (.cells #[.string (Fld.strO sy), .bool true] 49)).cell? ⟨wr.heap.size, 0, none⟩ = some (.string (Fld.strO sy)) := by rw [cell_of_row _ _ _ _ _ _ hxb]; rfl
                have hd1 : (w13.alloc (.cells #[.string (Fld.strO sy), .bool true] 49)).cell? ⟨wr.heap.size, 1, none⟩ = some (.bool true) := by rw [cell_of_row _ _ _ _ _ _ hxb]; rfl
                have HL15 := Lib.hid ((HL13.out.boxed (.cells #[.string (Fld.strO sy), .bool true] 49)).less (bs' := [(w11.heap.size, o1), (mk, om)]) (by simp))
                clear hxb
                go_wp2_with (first
                  | (go_at_call 23; go_must (with_reducible refine (QRA.out _ _ HL15.out).mono ?_); rintro e w16 ⟨rfl, rfl⟩)
                  | fail)
                exact ⟨⟨_, cnt1, o1, HL15.out, HRG1.out.kept ((HL15.out.at (x := (mk, om)) (by simp)).trans (HL13.out.at (x := (mk, om)) (by simp)).symm) ((HL15.out.at (x := (w11.heap.size, o1)) (by simp)).trans (HL13.out.at (x := (w11.heap.size, o1)) (by simp)).symm)⟩, by
                  rw [HRG.out.it.left_eq, (HRG1.out.kept ((HL15.out.at (x := (mk, om)) (by simp)).trans (HL13.out.at (x := (mk, om)) (by simp)).symm) ((HL15.out.at (x := (w11.heap.size, o1)) (by simp)).trans (HL13.out.at (x := (w11.heap.size, o1)) (by simp)).symm)).it.left_eq]; omega⟩
        · have f5 : decide ((fm : Int) < 14) = false := decide_eq_false (by omega)
          have f5' : decide (fm < 14) = false := decide_eq_false hf14
          go_wp2_with (first
            | (go_at_call 28; go_must (with_reducible refine QF.out.mono ?_); rintro e w6 ⟨ad1, c1, bs1, rfl, hq, hr⟩; have D1 := Lib.hid hq; clear hq hr)
            | (go_at_call 11; go_must (with_reducible refine (QC.out _ _ D1.out).mono ?_); rintro e w7 ⟨c, rfl, hq⟩; have D2 := Lib.hid hq; clear hq)
            | (go_at_call 14; first
              | ((with_reducible refine (QRL.out _ _ D3.out.one).mono ?_); rintro e w11 ⟨rfl, hq⟩; have D6 := Lib.hid hq; clear hq)
              | ((with_reducible refine (QR.out _ _ _ D2.out).mono ?_); rintro e w8 ⟨rfl, hq⟩; have D3 := Lib.hid hq; clear hq))
            | (at_range; refine wpList_range_kept rfl _ rfl mk n K rfl (HI.out.map _ (D6.out.at (x := (mk, om)) (by simp))) ?_; intro w12 D cnt0 r12 g12 z12))
          obtain ⟨or0, hor⟩ : ∃ o, w12.heap[w11.heap.size]? = some o := ⟨_, Array.getElem?_eq_getElem (by omega)⟩
          have hHL := (D6.out.less (bs' := [(mk, om)]) (by simp)).own ((Below.refl _ w11).grown g12 (Nat.le_refl _) (fun r e => by cases e)) hor (Nat.le_refl _)
          have hmr : mk < w11.heap.size := (Array.getElem?_eq_some_iff.1 (D6.out.at (x := (mk, om)) (by simp))).1
          have HL0 := Lib.hid hHL
          have HR0 := Lib.hid r12
          clear hHL g12 z12 r12 hor
          go_frame
          go_loopw [23, 25, 26] (fun _ _ _ wr => ∃ (left : Lit → Bool) (cnt : Nat) (o : Obj), FlockL w wr 0 [(p, T)] [(w11.heap.size, o), (mk, om)] ∧ KeptR wr mk w11.heap.size n K D left cnt) (fun _ _ _ wr => wr.rangeLeft mk w11.heap.size)
          case atStart => exact ⟨_, _, _, HL0.out, HR0.out⟩
          case round =>
            obtain ⟨left, cnt, o, hfl, hrg⟩ := hrel
            have HL := Lib.hid hfl
            have HRG := Lib.hid hrg
            clear hfl hrg HL0 HR0
            go_wp2_with (first
              | (at_next; refine wpList_next_kept rfl _ rfl mk w11.heap.size n K D left cnt rfl HRG.out ?_ ?_)
              | fail)
            · intro _
              go_wp2
              go_ret
              exact ⟨rfl, HL.out.below⟩
            · intro s sy
              refine ⟨?_, ?_⟩
              · intro w13 cnt1 hs hK hrg1 hlt hg1 hs1 hen
                have hsz := HI.out.short _ _ hK
                have hsz2 : s.size ≤ nameMax := by simpa using hsz
                obtain ⟨o1, ho1⟩ : ∃ o, w13.heap[w11.heap.size]? = some o := ⟨_, Array.getElem?_eq_getElem (by have := (Array.getElem?_eq_some_iff.1 (HL.out.at (x := (w11.heap.size, o)) (by simp))).1; omega)⟩
                have h13 := HL.out.turn hg1 ho1 (by simp; omega)
                have hlt13 : w11.heap.size < w13.heap.size := by have := (Array.getElem?_eq_some_iff.1 (HL.out.at (x := (w11.heap.size, o)) (by simp))).1; omega
                have HL13 := Lib.hid h13
                have HRG1 := Lib.hid hrg1
                have QRA := Lib.hid (fun (W : World) (bs : List (Nat × Obj)) (h : FlockL w W 0 [(p, T)] bs) => flock_readAt h.flock 0 Nat.zero_lt_one HFT.out s 0 10000 hsz2 (by decide) (by decide) (by decide))
                simp only [List.getElem_cons_zero] at QRA
                obtain ⟨ra, hra⟩ : ∃ ra, T.readAt s 0 10000 = ra := ⟨_, rfl⟩
                obtain ⟨rs, re⟩ := ra
                rw [hra] at QRA
                have hen' : (Instr.entry (.pointer (some ⟨w11.heap.size, 0, none⟩))).run Tryz.prog w13 = .ok (.tuple #[.string s, .agg #[.string (Fld.strO sy), .bool false]]) w13 := hen
                have hin : re = 0 ∧ sy <+: rs := by
                  have := HIR.out s sy hK
                  rw [hra] at this
                  exact this
                obtain ⟨rfl, hpre⟩ := hin
                have hhp : Lib.hasPrefix (ByteArray.mk rs.toArray).data.toList (Fld.strO sy).data.toList = true := by
                  rw [Fld.strO_data]
                  exact List.isPrefixOf_iff_prefix.2 hpre
                have QHP := fun W => hHF ⟨rs.toArray⟩ (Fld.strO sy) W
                simp only [hhp] at QHP
                clear hg1 hrg1 h13 ho1 hen hra hsz hs hK
                simp only at QRA
                have hxb : (w13.alloc (.cells #[.string (Fld.strO sy), .bool false] 49)).heap[wr.heap.size]? = some (.cells #[.string (Fld.strO sy), .bool false] 49 (0, 0)) := by rw [← hs1]; exact heap_alloc_new w13 _
                have hd0 : (w13.alloc (.cells #[.string (Fld.strO sy), .bool false] 49)).cell? ⟨wr.heap.size, 0, none⟩ = some (.string (Fld.strO sy)) := by rw [cell_of_row _ _ _ _ _ _ hxb]; rfl
                have hd1 : (w13.alloc (.cells #[.string (Fld.strO sy), .bool false] 49)).cell? ⟨wr.heap.size, 1, none⟩ = some (.bool false) := by rw [cell_of_row _ _ _ _ _ _ hxb]; rfl
                have HL15 := Lib.hid ((HL13.out.boxed (.cells #[.string (Fld.strO sy), .bool false] 49)).less (bs' := [(w11.heap.size, o1), (mk, om)]) (by simp))
                clear hxb
                go_wp2_with (first
                  | (go_at_call 23; go_must (with_reducible refine (QRA.out _ _ HL15.out).mono ?_); rintro e w16 ⟨rfl, rfl⟩)
                  | (go_at_call 30; go_must (with_reducible refine (QHP _).mono ?_); rintro e w17 ⟨rfl, rfl⟩)
                  | fail)
                exact ⟨⟨_, cnt1, o1, HL15.out, HRG1.out.kept ((HL15.out.at (x := (mk, om)) (by simp)).trans (HL13.out.at (x := (mk, om)) (by simp)).symm) ((HL15.out.at (x := (w11.heap.size, o1)) (by simp)).trans (HL13.out.at (x := (w11.heap.size, o1)) (by simp)).symm)⟩, by
                  rw [HRG.out.it.left_eq, (HRG1.out.kept ((HL15.out.at (x := (mk, om)) (by simp)).trans (HL13.out.at (x := (mk, om)) (by simp)).symm) ((HL15.out.at (x := (w11.heap.size, o1)) (by simp)).trans (HL13.out.at (x := (w11.heap.size, o1)) (by simp)).symm)).it.left_eq]; omega⟩
              · intro w13 cnt1 hs hK hrg1 hlt hg1 hs1 hen
                have hsz := HI.out.short _ _ hK
                have hsz2 : s.size ≤ nameMax := by simpa using hsz
                obtain ⟨o1, ho1⟩ : ∃ o, w13.heap[w11.heap.size]? = some o := ⟨_, Array.getElem?_eq_getElem (by have := (Array.getElem?_eq_some_iff.1 (HL.out.at (x := (w11.heap.size, o)) (by simp))).1; omega)⟩
                have h13 := HL.out.turn hg1 ho1 (by simp; omega)
                have hlt13 : w11.heap.size < w13.heap.size := by have := (Array.getElem?_eq_some_iff.1 (HL.out.at (x := (w11.heap.size, o)) (by simp))).1; omega
                have HL13 := Lib.hid h13
                have HRG1 := Lib.hid hrg1
                have QRA := Lib.hid (fun (W : World) (bs : List (Nat × Obj)) (h : FlockL w W 0 [(p, T)] bs) => flock_readAt h.flock 0 Nat.zero_lt_one HFT.out s 0 10000 hsz2 (by decide) (by decide) (by decide))
                simp only [List.getElem_cons_zero] at QRA
                obtain ⟨ra, hra⟩ : ∃ ra, T.readAt s 0 10000 = ra := ⟨_, rfl⟩
                obtain ⟨rs, re⟩ := ra
                rw [hra] at QRA
                have hen' : (Instr.entry (.pointer (some ⟨w11.heap.size, 0, none⟩))).run Tryz.prog w13 = .ok (.tuple #[.string s, .agg #[.string (Fld.strO sy), .bool true]]) w13 := hen
                clear hg1 hrg1 h13 ho1 hen hra hsz hs hK
                simp only at QRA
                have hxb : (w13.alloc (.cells #[.string (Fld.strO sy), .bool true] 49)).heap[wr.heap.size]? = some (.cells #[.string (Fld.strO sy), .bool true] 49 (0, 0)) := by rw [← hs1]; exact heap_alloc_new w13 _
                have hd0 : (w13.alloc (.cells #[.string (Fld.strO sy), .bool true] 49)).cell? ⟨wr.heap.size, 0, none⟩ = some (.string (Fld.strO sy)) := by rw [cell_of_row _ _ _ _ _ _ hxb]; rfl
                have hd1 : (w13.alloc (.cells #[.string (Fld.strO sy), .bool true] 49)).cell? ⟨wr.heap.size, 1, none⟩ = some (.bool true) := by rw [cell_of_row _ _ _ _ _ _ hxb]; rfl
                have HL15 := Lib.hid ((HL13.out.boxed (.cells #[.string (Fld.strO sy), .bool true] 49)).less (bs' := [(w11.heap.size, o1), (mk, om)]) (by simp))
                clear hxb
                go_wp2_with (first
                  | (go_at_call 23; go_must (with_reducible refine (QRA.out _ _ HL15.out).mono ?_); rintro e w16 ⟨rfl, rfl⟩)
                  | fail)
                exact ⟨⟨_, cnt1, o1, HL15.out, HRG1.out.kept ((HL15.out.at (x := (mk, om)) (by simp)).trans (HL13.out.at (x := (mk, om)) (by simp)).symm) ((HL15.out.at (x := (w11.heap.size, o1)) (by simp)).trans (HL13.out.at (x := (w11.heap.size, o1)) (by simp)).symm)⟩, by
                  rw [HRG.out.it.left_eq, (HRG1.out.kept ((HL15.out.at (x := (mk, om)) (by simp)).trans (HL13.out.at (x := (mk, om)) (by simp)).symm) ((HL15.out.at (x := (w11.heap.size, o1)) (by simp)).trans (HL13.out.at (x := (w11.heap.size, o1)) (by simp)).symm)).it.left_eq]; omega⟩
end Go.Proofs.YtmmoilmfpiclgaaGreat
