/-
  A region that draws its order, whose operations only read and whose callees make memory at most, but for one row that is written out ('f(a, b)' of a variadic f) and the call that it is handed to: one walk in the order of the text serves every order. In that walk the row is passed over, and the call yields its result.
-/
import Derived.Lib.QuietBelow
import Derived.Orders
namespace Go.Proofs.Ytmciflpabnfeiaa
open Go.RowKit Go.Sort

section
variable {P : Program} {ops : Array Oper} {C : World → Prop}

/-- Two acts hold the same in a slot. -/
def Meet (a b : Act) (t : Tmp) : Prop := a.tmps[t]? = b.tmps[t]?

theorem meet_put_ne {a : Act} {d t : Tmp} {v : Value} (h : d ≠ t) : (a.put (some d) v).tmps[t]? = a.tmps[t]? := by
  simp [Act.put, Array.getElem?_setIfInBounds_ne h]

theorem meet_put_eq {a : Act} {d : Tmp} {v : Value} (h : d < a.tmps.size) : (a.put (some d) v).tmps[d]? = some v := by
  simp [Act.put, h]

theorem put_size (a : Act) (d : Option Tmp) (v : Value) : (a.put d v).tmps.size = a.tmps.size := by
  cases d <;> simp [Act.put]

theorem put_defers (a : Act) (d : Option Tmp) (v : Value) : (a.put d v).defers = a.defers := by cases d <;> rfl

/-- What an operation is carried out to hangs on the slots that it looks at. -/
theorem exec_meet {a b : Act} (o : Oper) (hs : ∀ cs x, o.op ≠ .select cs x) (h : ∀ t ∈ o.looksAt ops, Meet a b t) : execOp a.eval o = execOp b.eval o :=
  execOp_congr o hs fun x hx => by
    cases x with
    | tmp t =>
      have := h t (List.mem_append_left _ (List.mem_filterMap.2 ⟨.tmp t, by simpa using hx, rfl⟩))
      unfold Meet at this
      simp only [Act.eval, Array.getD_eq_getD_getElem?, this]
    | const v => rfl
    | global g => rfl
    | func f => rfl

theorem wanted_meet {a b : Act} (o : Oper) (h : ∀ t ∈ o.looksAt ops, Meet a b t) : Region.wanted o (yielded ops a.tmps) = Region.wanted o (yielded ops b.tmps) := by
  unfold Region.wanted
  cases hg : o.guard with
  | none => rfl
  | some g =>
    obtain ⟨j, want⟩ := g
    have hy : yielded ops a.tmps j = yielded ops b.tmps j := by
      unfold yielded
      cases ho : (ops[j]?).bind (·.dst) with
      | none => rfl
      | some t =>
        have : t ∈ o.looksAt ops := by
          unfold Oper.looksAt
          simp [hg, ho]
        have := h t this
        unfold Meet at this
        simp only [Option.bind_some, this]
    simp only [hy]

theorem yields_meet {a b : Act} {o : Oper} {v : Value} (hs : ∀ cs x, o.op ≠ .select cs x) (h : ∀ t ∈ o.looksAt ops, Meet a b t) (hy : YieldsIn P ops C o v a) : YieldsIn P ops C o v b :=
  hy.of_same (exec_meet o hs h).symm (wanted_meet o h).symm

/-- The slots that some operations write. -/
def dstsOf (l : List Oper) : List Tmp := l.filterMap (·.dst)

theorem quiet_frame {bf : Act} : ∀ (l : List Oper) (a : Act), wpQuiet P ops C (fun b => b = bf) l a → (∀ t, t ∉ dstsOf l → Meet a bf t) ∧ a.tmps.size = bf.tmps.size ∧ a.defers = bf.defers
  | [], a, h => by
    have : a = bf := h
    subst this
    exact ⟨fun _ _ => rfl, rfl, rfl⟩
  | o :: l, a, h => by
    have key : ∃ v, wpQuiet P ops C (fun b => b = bf) l (a.put o.dst v) := by
      unfold wpQuiet at h
      split at h
      · obtain ⟨v, _, h'⟩ := h; exact ⟨v, h'⟩
      · exact ⟨undef, h⟩
    obtain ⟨v, hk⟩ := key
    obtain ⟨h1, h2, h3⟩ := quiet_frame l _ hk
    rw [put_size] at h2
    rw [put_defers] at h3
    refine ⟨fun t ht => ?_, h2, h3⟩
    have hl : t ∉ dstsOf l := fun hm => ht (by unfold dstsOf at hm ⊢; rw [List.filterMap_cons]; split <;> simp [hm])
    have := h1 t hl
    unfold Meet at this ⊢
    rw [← this]
    cases hd : o.dst with
    | none => rfl
    | some d =>
      refine (meet_put_ne fun e => ?_).symm
      subst e
      exact ht (by unfold dstsOf; rw [List.filterMap_cons, hd]; simp)

/-- Each operation of the walk yields, as seen from its end. -/
theorem quiet_table {bf : Act} : ∀ (l : List Oper) (a : Act), wpQuiet P ops C (fun b => b = bf) l a → (dstsOf l).Nodup → (∀ t ∈ dstsOf l, t < a.tmps.size) → (∀ o ∈ l, ∀ cs x, o.op ≠ .select cs x) →
    (∀ (i : Nat) (o : Oper), l[i]? = some o → ∀ t ∈ o.looksAt ops, t ∉ dstsOf (l.drop i)) → ∀ (i : Nat) (o : Oper), l[i]? = some o → ∃ v, YieldsIn P ops C o v bf ∧ ∀ d, o.dst = some d → bf.tmps[d]? = some v
  | [], _, _, _, _, _, _, i, o, hi => by simp at hi
  | o0 :: l, a, h, hn, hsz, hsel, hlk, i, o, hi => by
    have hfr := quiet_frame (o0 :: l) a h
    have key : ∃ v, YieldsIn P ops C o0 v a ∧ wpQuiet P ops C (fun b => b = bf) l (a.put o0.dst v) := by
      unfold wpQuiet at h
      split at h
      · rename_i hw
        obtain ⟨v, hv, h'⟩ := h; exact ⟨v, .inl ⟨hw, hv⟩, h'⟩
      · rename_i hw
        exact ⟨undef, .inr ⟨by simpa using hw, rfl⟩, h⟩
    obtain ⟨v, hy, hk⟩ := key
    have hfr' := quiet_frame l _ hk
    cases i with
    | zero =>
      have : o0 = o := by simpa using hi
      subst this
      refine ⟨v, yields_meet (hsel _ (by simp)) (fun t ht => hfr.1 t (hlk 0 o0 (by simp) t ht)) hy, fun d hd => ?_⟩
      have hdl : d ∉ dstsOf l := by
        unfold dstsOf at hn ⊢
        rw [List.filterMap_cons, hd] at hn
        exact (List.nodup_cons.1 hn).1
      have := hfr'.1 d hdl
      unfold Meet at this
      rw [← this, hd]
      exact meet_put_eq (hsz d (by unfold dstsOf; rw [List.filterMap_cons, hd]; simp))
    | succ i =>
      refine quiet_table l _ hk ?_ ?_ (fun o ho => hsel o (by simp [ho])) (fun j o' hj t ht => ?_) i o (by simpa using hi)
      · unfold dstsOf at hn ⊢
        rw [List.filterMap_cons] at hn
        split at hn
        · exact hn
        · exact (List.nodup_cons.1 hn).2
      · intro t ht
        rw [put_size]
        refine hsz t ?_
        unfold dstsOf at ht ⊢
        rw [List.filterMap_cons]
        split <;> simp [ht]
      · have := hlk (j + 1) o' (by simpa using hj) t ht
        simpa using this
end

/-- What the law asks of the region's text: distinct slots; each operation looks at slots that nothing here writes, or that are written by operations that it waits for; the row's slot is looked at by the call alone. -/
def sliceB (ops : Array Oper) (k c : Nat) (dk : Tmp) : Bool :=
  decide (dstsOf ops.toList).Nodup && (List.range ops.size).all fun i =>
    match ops[i]? with
    | none => false
    | some o =>
      (match o.op with | .select _ _ => false | _ => true) && o.dst.isSome && (o.after.all fun e => decide (e.on < i)) &&
      (o.looksAt ops).all fun t =>
        if t = dk then i == c && o.after.any (fun e => Region.binds .any e && e.on == k)
        else !(dstsOf ops.toList).contains t || o.after.any (fun e => Region.binds .any e && e.on != k && ((ops[e.on]?).bind (·.dst)) == some t)

/-- How things stand when so many operations have come up, in whatever order. -/
structure SliceI (ops : Array Oper) (k : Nat) (dk : Tmp) (a0 bf : Act) (V : Value → World → Prop) (listed : Array Bool) (a : Act) (w : World) : Prop where
  hnot : ∀ t, (∀ (j : Nat) o, ops[j]? = some o → o.dst = some t → listed.getD j false = false) → Meet a a0 t
  hyes : ∀ (j : Nat) o t, ops[j]? = some o → o.dst = some t → listed.getD j false = true → j ≠ k → Meet a bf t
  hrow : listed.getD k false = true → ∃ X, a.tmps[dk]? = some X ∧ V X w
  hsize : a.tmps.size = bf.tmps.size
  hdef : a.defers = bf.defers
  hlist : listed.size = ops.size

section
variable {P : Program} {ops : Array Oper} {k c : Nat} {dk : Tmp} {a0 bf : Act} {V : Value → World → Prop}

theorem dst_distinct (hn : (dstsOf ops.toList).Nodup) {i j : Nat} {oi oj : Oper} {d : Tmp} (hi : ops[i]? = some oi) (hj : ops[j]? = some oj) (di : oi.dst = some d) (dj : oj.dst = some d) : i = j := by
  have key : ∀ (l : List Oper), (dstsOf l).Nodup → ∀ (i j : Nat) (oi oj : Oper), l[i]? = some oi → l[j]? = some oj → oi.dst = some d → oj.dst = some d → i = j := by
    intro l
    induction l with
    | nil => intro _ i j oi oj h; simp at h
    | cons o l ih =>
      intro hn i j oi oj h1 h2 d1 d2
      have htail : (dstsOf l).Nodup := by
        unfold dstsOf at hn ⊢
        rw [List.filterMap_cons] at hn
        split at hn
        · exact hn
        · exact (List.nodup_cons.1 hn).2
      have hhead : o.dst = some d → ∀ (m : Nat) o', l[m]? = some o' → o'.dst = some d → False := by
        intro e m o' hm hd
        unfold dstsOf at hn
        rw [List.filterMap_cons, e] at hn
        exact (List.nodup_cons.1 hn).1 (List.mem_filterMap.2 ⟨o', List.mem_of_getElem? hm, hd⟩)
      cases i with
      | zero =>
        cases j with
        | zero => rfl
        | succ j =>
          have : o = oi := by simpa using h1
          subst this
          exact (hhead d1 j oj (by simpa using h2) d2).elim
      | succ i =>
        cases j with
        | zero =>
          have : o = oj := by simpa using h2
          subst this
          exact (hhead d2 i oi (by simpa using h1) d1).elim
        | succ j => rw [ih htail i j oi oj (by simpa using h1) (by simpa using h2) d1 d2]
  exact key ops.toList hn i j oi oj (by simpa using hi) (by simpa using hj) di dj

theorem getD_set_self {listed : Array Bool} {i : Nat} (h : i < listed.size) : (listed.setIfInBounds i true).getD i false = true := by simp [h]

/-- One more operation. -/
theorem SliceI.step {listed : Array Bool} {a : Act} {w w' : World} {i : Nat} {o : Oper} {d : Tmp} {v : Value} (hn : (dstsOf ops.toList).Nodup) (h : SliceI ops k dk a0 bf V listed a w) (hi : ops[i]? = some o) (hd : o.dst = some d) (_hun : listed.getD i true = false)
    (hdk : ∀ ok, ops[k]? = some ok → ok.dst = some dk) (hkex : ∃ ok, ops[k]? = some ok) (hsz : d < bf.tmps.size) (hV : ∀ X, V X w → V X w') (hv : i ≠ k → bf.tmps[d]? = some v) (hvk : i = k → V v w') : SliceI ops k dk a0 bf V (listed.setIfInBounds i true) (a.put o.dst v) w' := by
  have hlt : i < listed.size := by rw [h.hlist]; exact (Array.getElem?_eq_some_iff.1 hi).1
  rw [hd]
  have hsa : d < a.tmps.size := by rw [h.hsize]; exact hsz
  refine ⟨fun t ht => ?_, fun j oj t hj hjd hl hjk => ?_, fun hl => ?_, by rw [put_size]; exact h.hsize, by rw [put_defers]; exact h.hdef, by rw [Array.size_setIfInBounds]; exact h.hlist⟩
  · have hne : d ≠ t := fun e => by
      have := ht i o hi (by rw [hd, e])
      rw [getD_set_self hlt] at this
      cases this
    unfold Meet
    rw [meet_put_ne hne]
    refine h.hnot t fun j oj hj hjd => ?_
    have := ht j oj hj hjd
    by_cases e : i = j
    · subst e; rw [getD_set_self hlt] at this; cases this
    · rwa [getD_set_ne false e] at this
  · by_cases e : i = j
    · subst e
      rw [hi] at hj
      cases hj
      rw [hd] at hjd
      cases hjd
      unfold Meet
      rw [meet_put_eq hsa, hv hjk]
    · have hne : d ≠ t := fun e' => e (dst_distinct hn hi hj (by rw [hd, e']) hjd)
      rw [getD_set_ne false e] at hl
      unfold Meet
      rw [meet_put_ne hne]
      exact h.hyes j oj t hj hjd hl hjk
  · obtain ⟨ok, hok⟩ := hkex
    have hdk' := hdk ok hok
    by_cases e : i = k
    · subst e
      rw [hi] at hok
      cases hok
      rw [hd] at hdk'
      cases hdk'
      exact ⟨v, meet_put_eq hsa, hvk rfl⟩
    · rw [getD_set_ne false e] at hl
      obtain ⟨X, h1, h2⟩ := h.hrow hl
      have hne : d ≠ dk := fun e' => e (dst_distinct hn hi hok (by rw [hd, e']) hdk')
      exact ⟨X, by rw [meet_put_ne hne]; exact h1, hV X h2⟩

/-- How many have not come up. -/
def unlisted (ops : Array Oper) (listed : Array Bool) : Nat := ((List.range ops.size).filter fun i => !listed.getD i true).length

theorem unlisted_set {listed : Array Bool} {i : Nat} (hi : i < ops.size) (hs : listed.size = ops.size) (hun : listed.getD i true = false) : unlisted ops (listed.setIfInBounds i true) < unlisted ops listed := by
  unfold unlisted
  have e : ((List.range ops.size).filter fun j => !(listed.setIfInBounds i true).getD j true) = ((List.range ops.size).filter fun j => !listed.getD j true).filter fun j => !(listed.setIfInBounds i true).getD j true := by
    rw [List.filter_filter]
    apply List.filter_congr
    intro j _
    by_cases hij : i = j
    · subst hij
      have : (listed.setIfInBounds i true).getD i true = true := by simp [show i < listed.size by omega]
      simp only [this]
      simp
    · rw [getD_set_ne true hij]
      cases listed.getD j true <;> rfl
  rw [e]
  refine List.length_filter_lt_length_iff_exists.2 ⟨i, List.mem_filter.2 ⟨List.mem_range.2 hi, by rw [hun]; rfl⟩, ?_⟩
  have : (listed.setIfInBounds i true).getD i true = true := by simp [show i < listed.size by omega]
  simp only [this]
  simp

theorem any_mem {α : Type} {as : Array α} {p : α → Bool} (h : as.any p = true) : ∃ x ∈ as, p x = true := by
  obtain ⟨i, hi, hp⟩ := Array.any_eq_true.1 h
  exact ⟨as[i], Array.getElem_mem hi, hp⟩

theorem sliceB_spec (hB : sliceB ops k c dk = true) : (dstsOf ops.toList).Nodup ∧ ∀ (i : Nat) (o : Oper), ops[i]? = some o → (∀ cs x, o.op ≠ .select cs x) ∧ o.dst.isSome = true ∧ (∀ e ∈ o.after, e.on < i) ∧
    ∀ t ∈ o.looksAt ops, (t = dk ∧ i = c ∧ ∃ e ∈ o.after, Region.binds .any e = true ∧ e.on = k) ∨ (t ≠ dk ∧ t ∉ dstsOf ops.toList) ∨ (t ≠ dk ∧ ∃ e ∈ o.after, Region.binds .any e = true ∧ e.on ≠ k ∧ (ops[e.on]?).bind (·.dst) = some t) := by
  unfold sliceB at hB
  rw [Bool.and_eq_true] at hB
  refine ⟨of_decide_eq_true hB.1, fun i o hi => ?_⟩
  have h := List.all_eq_true.1 hB.2 i (List.mem_range.2 (Array.getElem?_eq_some_iff.1 hi).1)
  simp only [hi, Bool.and_eq_true] at h
  obtain ⟨⟨⟨h1, h2⟩, h3⟩, h4⟩ := h
  refine ⟨(fun cs x e => by rw [e] at h1; cases h1), h2, fun e he => ?_, fun t ht => ?_⟩
  · have := (Array.all_eq_true_iff_forall_mem.1 h3) e he
    exact of_decide_eq_true this
  · have h := List.all_eq_true.1 h4 t ht
    by_cases e : t = dk
    · rw [if_pos e, Bool.and_eq_true] at h
      obtain ⟨x, hx, hx2⟩ := any_mem h.2
      rw [Bool.and_eq_true] at hx2
      exact .inl ⟨e, by simpa using h.1, x, hx, hx2.1, by simpa using hx2.2⟩
    · rw [if_neg e, Bool.or_eq_true] at h
      rcases h with h | h
      · exact .inr (.inl ⟨e, by simpa using h⟩)
      · obtain ⟨x, hx, hx2⟩ := any_mem h
        simp only [Bool.and_eq_true] at hx2
        exact .inr (.inr ⟨e, x, hx, hx2.1.1, by simpa using hx2.1.2, by simpa using hx2.2⟩)

theorem all_listed (hB : sliceB ops k c dk = true) {listed : Array Bool} (hs : listed.size = ops.size) (hr : Region.ready .any ops listed = []) : ∀ j, j < ops.size → listed.getD j false = true := by
  intro j
  induction j using Nat.strongRecOn with
  | _ j ih =>
    intro hj
    cases hl : listed.getD j true with
    | true =>
      have hj' : j < listed.size := by omega
      simp [hj'] at hl ⊢
      exact hl
    | false =>
      exfalso
      have hm : j ∈ Region.ready .any ops listed := by
        refine mem_ready.2 ⟨hl, ops[j], by simp [hj], fun e he hb => ?_⟩
        have := ((sliceB_spec hB).2 j ops[j] (by simp [hj])).2.2.1 e he
        exact ih e.on this (by omega)
      rw [hr] at hm
      cases hm

/-- The class of worlds that a callee may leave. -/
abbrev Reg (w1 : World) : World → Prop := fun w' => ∃ p : Regrown, w' = grow (redrawn w1 p.d) p.os

theorem wpAny_slice {Q : Exit → Act → World → Prop} {w : World} {okk oc : Oper} {R : Value} (hB : sliceB ops k c dk = true) (hkc : k ≠ c) (hk : ops[k]? = some okk) (hc : ops[c]? = some oc) (hkd : okk.dst = some dk)
    (hbase : ∀ t, t ∉ dstsOf ops.toList → Meet a0 bf t) (hsz : ∀ t ∈ dstsOf ops.toList, t < bf.tmps.size)
    (htab : ∀ w1, Below w.heap.size w w1 → ∀ (i : Nat) o, ops[i]? = some o → i ≠ k → i ≠ c → ∃ v, YieldsIn P ops (Reg w1) o v bf ∧ ∀ d, o.dst = some d → bf.tmps[d]? = some v)
    (hwk : Region.wanted okk (yielded ops bf.tmps) = true) (hlooks : dk ∈ oc.looksAt ops)
    (hwc2 : ∀ X w1, V X w1 → Region.wanted oc (yielded ops (bf.put (some dk) X).tmps) = true)
    (hrk : ∀ w1, Below w.heap.size w w1 → ∃ X w2, (execOp bf.eval okk).run P w1 = .ok (.value X) w2 ∧ Below w1.heap.size w1 w2 ∧ V X w2)
    (hrc : ∀ X w1, Below w.heap.size w w1 → V X w1 → ∃ f args, (execOp (bf.put (some dk) X).eval oc).run P w1 = .ok (.enter f args) w1 ∧ Calls P f args w1 fun e w2 => e = .returned R ∧ Below w1.heap.size w1 w2)
    (hR : ∀ d, oc.dst = some d → bf.tmps[d]? = some R) (hV : ∀ X w1 w2, Below w1.heap.size w1 w2 → V X w1 → V X w2)
    (hQ : ∀ X w1, Below w.heap.size w w1 → V X w1 → Q .normal (bf.put (some dk) X) w1) :
    ∀ (fuel : Nat) (listed : Array Bool) (a : Act) (w1 : World), Below w.heap.size w w1 → SliceI ops k dk a0 bf V listed a w1 → unlisted ops listed ≤ fuel → wpAny P .any ops Q fuel listed a w1 := by
  have hn := (sliceB_spec hB).1
  have hdkm : dk ∈ dstsOf ops.toList := List.mem_filterMap.2 ⟨okk, List.mem_of_getElem? (by simpa using hk), hkd⟩
  have hend : ∀ listed a w1, Below w.heap.size w w1 → SliceI ops k dk a0 bf V listed a w1 → Region.ready .any ops listed = [] → Q .normal a w1 := by
    intro listed a w1 hb h hr
    have hall := all_listed hB h.hlist hr
    obtain ⟨X, hX, hVX⟩ := h.hrow (hall k (Array.getElem?_eq_some_iff.1 hk).1)
    have ha : a = bf.put (some dk) X := by
      have e1 : a.tmps = (bf.put (some dk) X).tmps := by
        apply Array.ext_getElem?
        intro t
        by_cases ht : t = dk
        · subst ht
          rw [hX, meet_put_eq (hsz _ hdkm)]
        · rw [meet_put_ne (fun e => ht e.symm)]
          by_cases htd : t ∈ dstsOf ops.toList
          · obtain ⟨o, ho, hod⟩ := List.mem_filterMap.1 htd
            obtain ⟨j, hj, rfl⟩ := List.getElem_of_mem ho
            have hj' : ops[j]? = some (ops.toList[j]) := by simp at hj ⊢
            refine h.hyes j _ t hj' hod (hall j (by simpa using hj)) fun e => ht ?_
            subst e
            rw [hk] at hj'
            cases hj'
            rw [hkd] at hod
            exact (Option.some.inj hod).symm
          · have h1 := h.hnot t fun j o hj hd => (htd (List.mem_filterMap.2 ⟨o, List.mem_of_getElem? (by simpa using hj), hd⟩)).elim
            have h2 := hbase t htd
            unfold Meet at h1 h2
            rw [h1, h2]
      have e2 : a.defers = (bf.put (some dk) X).defers := by rw [put_defers]; exact h.hdef
      cases a
      cases hp : bf.put (some dk) X
      rw [hp] at e1 e2
      simp only at e1 e2
      rw [e1, e2]
    rw [ha]
    exact hQ X w1 hb hVX
  have hop : ∀ (n : Nat) (listed : Array Bool) (a : Act) (w1 : World), Below w.heap.size w w1 → SliceI ops k dk a0 bf V listed a w1 → ∀ i ∈ Region.ready .any ops listed,
      (∀ a' w2, Below w.heap.size w w2 → SliceI ops k dk a0 bf V (listed.setIfInBounds i true) a' w2 → wpAny P .any ops Q n (listed.setIfInBounds i true) a' w2) → wpOp P ops Q i (wpAny P .any ops Q n (listed.setIfInBounds i true)) a w1 := by
    intro n listed a w1 hb h i hi hcont
    obtain ⟨hun, o, ho, hall⟩ := mem_ready.1 hi
    obtain ⟨hsel, hds, _, hlook⟩ := (sliceB_spec hB).2 i o ho
    obtain ⟨d, hd⟩ := Option.isSome_iff_exists.1 hds
    have hdm : d ∈ dstsOf ops.toList := List.mem_filterMap.2 ⟨o, List.mem_of_getElem? (by simpa using ho), hd⟩
    have hmeet : ∀ t ∈ o.looksAt ops, t ≠ dk → Meet a bf t := by
      intro t ht hne
      rcases hlook t ht with ⟨e, _⟩ | ⟨_, hnd⟩ | ⟨_, e, he, hbi, hek, hdt⟩
      · exact absurd e hne
      · have h1 := h.hnot t fun j o hj hd => (hnd (List.mem_filterMap.2 ⟨o, List.mem_of_getElem? (by simpa using hj), hd⟩)).elim
        have h2 := hbase t hnd
        unfold Meet at h1 h2 ⊢
        rw [h1, h2]
      · cases hoe : ops[e.on]? with
        | none => rw [hoe] at hdt; cases hdt
        | some oe =>
          rw [hoe] at hdt
          exact h.hyes e.on oe t hoe hdt (hall e he hbi) hek
    have stepI := fun v w2 (hb2 : Below w1.heap.size w1 w2) hv hvk => h.step (v := v) (w' := w2) hn ho hd hun (fun ok hok => by rw [hk] at hok; cases hok; exact hkd) ⟨okk, hk⟩ (hsz d hdm) (fun X hX => hV X w1 w2 hb2 hX) hv hvk
    unfold wpOp
    simp only [ho]
    by_cases hik : i = k
    · subst hik
      rw [hk] at ho
      cases ho
      have hm : ∀ t ∈ okk.looksAt ops, Meet a bf t := fun t ht => by
        refine hmeet t ht fun e => ?_
        rcases hlook t ht with ⟨_, e', _⟩ | ⟨hne, _⟩ | ⟨hne, _⟩
        · exact hkc e'
        · exact hne e
        · exact hne e
      rw [wanted_meet okk hm, hwk, if_pos rfl]
      obtain ⟨X, w2, hrun, hb2, hVX⟩ := hrk w1 hb
      left
      unfold Oper.wp
      rw [exec_meet okk hsel hm, hrun]
      show wpAny P .any ops Q n _ (a.put okk.dst X) w2
      exact hcont _ _ (Below.trans hb (hb2.mono hb.size)) (stepI X w2 hb2 (fun e => absurd rfl e) (fun _ => hVX))
    · by_cases hic : i = c
      · subst hic
        rw [hc] at ho
        cases ho
        have hlk : listed.getD k false = true := by
          rcases hlook dk hlooks with ⟨_, _, x, hx, hbi, hxk⟩ | ⟨hne, _⟩ | ⟨hne, _⟩
          · rw [← hxk]; exact hall x hx hbi
          · exact absurd rfl hne
          · exact absurd rfl hne
        obtain ⟨X, hX, hVX⟩ := h.hrow hlk
        have hm : ∀ t ∈ oc.looksAt ops, Meet a (bf.put (some dk) X) t := fun t ht => by
          unfold Meet
          by_cases e : t = dk
          · subst e
            rw [hX, meet_put_eq (hsz _ hdkm)]
          · rw [meet_put_ne (fun e' => e e'.symm)]
            exact hmeet t ht e
        rw [wanted_meet oc hm, hwc2 X w1 hVX, if_pos rfl]
        obtain ⟨f, args, hrun, hcall⟩ := hrc X w1 hb hVX
        left
        unfold Oper.wp
        rw [exec_meet oc hsel hm, hrun, Oper.upon_enter]
        refine hcall.mono ?_
        rintro e w2 ⟨rfl, hb2⟩
        exact hcont _ _ (Below.trans hb (hb2.mono hb.size)) (stepI R w2 hb2 (fun _ => hR d hd) (fun e => absurd e hik))
      · obtain ⟨v, hy, hv⟩ := htab w1 hb i o ho hik hic
        have hm : ∀ t ∈ o.looksAt ops, Meet bf a t := fun t ht => by
          refine (hmeet t ht fun e => ?_).symm
          rcases hlook t ht with ⟨_, e', _⟩ | ⟨hne, _⟩ | ⟨hne, _⟩
          · exact hic e'
          · exact hne e
          · exact hne e
        rcases yields_meet hsel hm hy with ⟨hw, hq⟩ | ⟨hw, rfl⟩
        · rw [hw, if_pos rfl]
          left
          refine Oper.wp_of_quiet (C := Reg w1) (K := fun a' => a' = a.put o.dst v) ⟨⟨w1.drawn, #[]⟩, by rw [grow_empty]; rfl⟩ (fun a' w2 hw2 ha' => ?_) ⟨v, hq, rfl⟩
          subst ha'
          obtain ⟨p, rfl⟩ := hw2
          have hb2 := below_regrown w1 p.d p.os
          exact hcont _ _ (Below.trans hb (hb2.mono hb.size)) (stepI v _ hb2 (fun _ => hv d hd) (fun e => absurd e hik))
        · rw [hw]
          simp only [Bool.false_eq_true, if_false]
          exact hcont _ _ hb (stepI undef w1 (Below.refl _ _) (fun _ => hv d hd) (fun e => absurd e hik))
  intro fuel
  induction fuel with
  | zero =>
    intro listed a w1 hb h hu
    have hr : Region.ready .any ops listed = [] := by
      cases hl : Region.ready .any ops listed with
      | nil => rfl
      | cons i r =>
        have hm : i ∈ Region.ready .any ops listed := by rw [hl]; simp
        obtain ⟨hun, o, ho, _⟩ := mem_ready.1 hm
        have := unlisted_set (ops := ops) (i := i) (Array.getElem?_eq_some_iff.1 ho).1 h.hlist hun
        omega
    exact ⟨hr, hend listed a w1 hb h hr⟩
  | succ fuel ih =>
    intro listed a w1 hb h hu
    refine ⟨fun hr => hend listed a w1 hb h hr, fun i hi => hop fuel listed a w1 hb h i hi fun a' w2 hb2 h2 => ih _ a' w2 hb2 h2 ?_⟩
    obtain ⟨hun, o, ho, _⟩ := mem_ready.1 hi
    have := unlisted_set (ops := ops) (i := i) (Array.getElem?_eq_some_iff.1 ho).1 h.hlist hun
    omega

theorem replicate_getD (n j : Nat) : (Array.replicate n false).getD j false = false := by
  rw [Array.getD_eq_getD_getElem?, Array.getElem?_replicate]
  split <;> rfl

/-- The text of the walk: the row is passed over, the call yields its result. -/
def skipped (l : List Oper) (k c : Nat) (okk oc : Oper) (R : Value) : List Oper := (l.set k { okk with op := .move (.const undef) }).set c { oc with op := .move (.const R) }

/-- What is asked of that text. -/
def walkB (l : List Oper) (n : Nat) : Bool :=
  decide (dstsOf l).Nodup && (dstsOf l).all (fun t => decide (t < n)) && (List.range l.length).all fun i =>
    match l[i]? with
    | none => false
    | some o => (match o.op with | .select _ _ => false | _ => true) && (o.looksAt l.toArray).all fun t => !(dstsOf (l.drop i)).contains t

theorem skipped_dst (l : List Oper) (k c : Nat) (okk oc : Oper) (R : Value) (hk : l[k]? = some okk) (hc : l[c]? = some oc) (j : Nat) : ((skipped l k c okk oc R)[j]?).bind (·.dst) = (l[j]?).bind (·.dst) := by
  unfold skipped
  rw [List.getElem?_set]
  split
  · rename_i h
    subst h
    rw [hc]
    split <;> rename_i h
    · rfl
    · rw [List.length_set] at h
      exact absurd (List.getElem?_eq_some_iff.1 hc).1 h
  · rw [List.getElem?_set]
    split
    · rename_i h
      subst h
      rw [hk]
      split <;> rename_i h
      · rfl
      · exact absurd (List.getElem?_eq_some_iff.1 hk).1 h
    · rfl

theorem dstsOf_congr : ∀ (l m : List Oper), l.length = m.length → (∀ j : Nat, (l[j]?).bind (·.dst) = (m[j]?).bind (·.dst)) → dstsOf l = dstsOf m
  | [], [], _, _ => rfl
  | [], _ :: _, h, _ => by simp at h
  | _ :: _, [], h, _ => by simp at h
  | a :: l, b :: m, h, hj => by
    have h0 : a.dst = b.dst := by simpa using hj 0
    have ht := dstsOf_congr l m (by simpa using h) fun j => by simpa using hj (j + 1)
    unfold dstsOf at ht ⊢
    rw [List.filterMap_cons, List.filterMap_cons, h0, ht]

theorem wp_region_slice {id : Nat} {l : List Oper} {Q : Exit → Act → World → Prop} {w : World} (hm : P.follows .mixedOrders = true) (k c : Nat) (dk : Tmp) (okk oc : Oper) (R : Value) (V : Value → World → Prop) (bf : Act)
    (hB : sliceB l.toArray k c dk = true) (hkc : k ≠ c) (hk : l[k]? = some okk) (hc : l[c]? = some oc) (hkd : okk.dst = some dk) (hlooks : dk ∈ oc.looksAt l.toArray)
    (hwalk : ∀ w1, Below w.heap.size w w1 → wpQuiet P (skipped l k c okk oc R).toArray (fun w' => ∃ p : Regrown, w' = grow (redrawn w1 p.d) p.os) (fun b => b = bf) (skipped l k c okk oc R) a0)
    (hB2 : walkB (skipped l k c okk oc R) a0.tmps.size = true)
    (hwk : Region.wanted okk (yielded l.toArray bf.tmps) = true) (hwc : Region.wanted oc (yielded l.toArray bf.tmps) = true) (hwc2 : ∀ X w1, V X w1 → Region.wanted oc (yielded l.toArray (bf.put (some dk) X).tmps) = true)
    (hrk : ∀ w1, Below w.heap.size w w1 → ∃ X w2, (execOp bf.eval okk).run P w1 = .ok (.value X) w2 ∧ Below w1.heap.size w1 w2 ∧ V X w2)
    (hrc : ∀ X w1, Below w.heap.size w w1 → V X w1 → ∃ f args, (execOp (bf.put (some dk) X).eval oc).run P w1 = .ok (.enter f args) w1 ∧ Calls P f args w1 fun e w2 => e = .returned R ∧ Below w1.heap.size w1 w2)
    (hV : ∀ X w1 w2, Below w1.heap.size w1 w2 → V X w1 → V X w2)
    (hQ : ∀ X w1, Below w.heap.size w w1 → V X w1 → Q .normal (bf.put (some dk) X) w1) : (Code.region id l.toArray true).wp P Q a0 w := by
  have hlen : (skipped l k c okk oc R).length = l.length := by unfold skipped; simp
  have hdj := skipped_dst l k c okk oc R hk hc
  have hds : dstsOf (skipped l k c okk oc R) = dstsOf l := dstsOf_congr _ _ hlen hdj
  have hyd : ∀ tmps, yielded (skipped l k c okk oc R).toArray tmps = yielded l.toArray tmps := fun tmps => by
    funext j
    unfold yielded
    rw [List.getElem?_toArray, List.getElem?_toArray, hdj j]
  have hw0 := hwalk w (Below.refl _ _)
  obtain ⟨f1, f2, f3⟩ := quiet_frame _ _ hw0
  rw [hds] at f1
  unfold walkB at hB2
  rw [Bool.and_eq_true, Bool.and_eq_true] at hB2
  obtain ⟨⟨b1, b2⟩, b3⟩ := hB2
  have b1 := of_decide_eq_true b1
  have hszd : ∀ t ∈ dstsOf (skipped l k c okk oc R), t < a0.tmps.size := fun t ht => of_decide_eq_true (List.all_eq_true.1 b2 t ht)
  have hper : ∀ (i : Nat) o, (skipped l k c okk oc R)[i]? = some o → (∀ cs x, o.op ≠ .select cs x) ∧ ∀ t ∈ o.looksAt (skipped l k c okk oc R).toArray, t ∉ dstsOf ((skipped l k c okk oc R).drop i) := fun i o hi => by
    have h := List.all_eq_true.1 b3 i (List.mem_range.2 (List.getElem?_eq_some_iff.1 hi).1)
    simp only [hi, Bool.and_eq_true] at h
    refine ⟨(fun cs x e => by have h1 := h.1; rw [e] at h1; cases h1), fun t ht => ?_⟩
    have := List.all_eq_true.1 h.2 t ht
    simpa using this
  have htab' := fun w1 h1 => quiet_table _ _ (hwalk w1 h1) b1 hszd (fun o ho => by
    obtain ⟨i, hi, rfl⟩ := List.getElem_of_mem ho
    exact (hper i _ (List.getElem?_eq_getElem hi)).1) (fun i o hi => (hper i o hi).2)
  have hcc : (skipped l k c okk oc R)[c]? = some { oc with op := .move (.const R) } := by
    unfold skipped
    rw [List.getElem?_set]
    simp [(List.getElem?_eq_some_iff.1 hc).1]
  have hcv := htab' w (Below.refl _ _) c _ hcc
  have hR : ∀ d, oc.dst = some d → bf.tmps[d]? = some R := by
    obtain ⟨v, hy, hv⟩ := hcv
    intro d hd
    rw [hv d hd]
    congr 1
    rcases hy with ⟨_, hq⟩ | ⟨hw, _⟩
    · have := hq w ⟨⟨w.drawn, #[]⟩, by rw [grow_empty]; rfl⟩
      exact this.2.symm
    · exfalso
      rw [hyd] at hw
      have hw' : Region.wanted oc (yielded l.toArray bf.tmps) = false := hw
      rw [hwc] at hw'
      cases hw'
  refine wp_region_any hm ?_
  have hmain := wpAny_slice (P := P) (ops := l.toArray) (k := k) (c := c) (dk := dk) (a0 := a0) (bf := bf) (V := V) (Q := Q) (w := w) (okk := okk) (oc := oc) (R := R) hB hkc (by simpa using hk) (by simpa using hc) hkd
    (by simpa using f1) (by intro t ht; rw [← f2]; exact hszd t (by rw [hds]; simpa using ht))
    (fun w1 h1 i o hi hik hic => by
      have hi' : (skipped l k c okk oc R)[i]? = some o := by
        unfold skipped
        rw [List.getElem?_set_ne (fun e => hic e.symm), List.getElem?_set_ne (fun e => hik e.symm)]
        simpa using hi
      obtain ⟨v, hy, hv⟩ := htab' w1 h1 i o hi'
      refine ⟨v, ?_, hv⟩
      unfold YieldsIn at hy ⊢
      rw [hyd] at hy
      exact hy)
    hwk hlooks hwc2 hrk hrc hR hV hQ l.toArray.size (Array.replicate l.toArray.size false) a0 { w with drawn := w.drawn + 1 } (Below.drew (Below.refl _ w)) ?_ ?_
  · exact hmain
  · refine ⟨fun t _ => rfl, fun j o t _ _ hl _ => ?_, fun hl => ?_, f2, f3, by simp⟩
    · rw [replicate_getD] at hl; cases hl
    · rw [replicate_getD] at hl; cases hl
  · unfold unlisted
    exact Nat.le_trans (List.length_filter_le ..) (by simp)
end
end Go.Proofs.Ytmciflpabnfeiaa
