/-
  The walk over a trie's nodes, by rising rows. The walk from a node on: what it hands up, and in what order. The iterator over a trie's nodes.
-/
import Derived.Test.YtmfchlbafpkgaaaD03
import Derived.Test.YtmfchlbafpkgaaaD06
import Derived.Test.YtmfchlbafpkgaaaD22
set_option linter.unusedVariables false
set_option linter.unusedSimpArgs false
namespace Go.Proofs.Ytmfchlbafpkgaaa
open Go.RowKit Go.Shelf

attribute [local go_sem] Oper.semAt_some

/-- The types of the walk's own blocks. -/
def WalkT (T : TypeId) : Prop := T = 58 ∨ T = 5 ∨ T = 145 ∨ T = 146

/-- What is handed on: a row, and the node to which it leads. -/
def VisitAt (x : List UInt8 × Option (Nat × Bool)) (args : Array Value) (W : World) : Prop :=
  ∃ (v : Value) (q : Nat) (mv : Value), args = #[v, .pointer (some ⟨q, 0, none⟩)] ∧ BRow W v x.1 ∧ W.heap[q]? = some (.cells #[.int .u32 (vW x.2 : Int), .bool (vG x.2), .bool (vI x.2), mv] 109 (0, 0))

/-- A walk under way: w: where the trie stood; B: where its own blocks begin; yb, br, bf: its boxes; v: its row. -/
structure WalkSt (w : World) (n0 B l yb br bf : Nat) (row : List UInt8) (v : Value) (W : World) : Prop where
  fr : Below n0 w W
  low : n0 ≤ B
  in0 : n0 ≤ w.heap.size
  y : Boxed W yb 145 (.func (.yield l) #[] #[])
  f : Boxed W bf 146 (.func (.func 91) #[] #[.pointer (some ⟨yb, 0, none⟩), .pointer (some ⟨br, 0, none⟩), .pointer (some ⟨bf, 0, none⟩)])
  r : Boxed W br 58 v
  rb : BRow W v row
  ro : ∀ g, v.ownBlock = some g → B ≤ g
  b : B ≤ yb ∧ B ≤ br ∧ B ≤ bf

/-- What a walk leaves: all blocks of its types but its row and its row's box. -/
structure FrW (br : Nat) (v : Value) (W : World) (v' : Value) (W' : World) : Prop where
  size : W.heap.size ≤ W'.heap.size
  same : ∀ (k : Nat) cs T fz, WalkT T → W.heap[k]? = some (.cells cs T fz) → k ≠ br → v.ownBlock ≠ some k → W'.heap[k]? = some (.cells cs T fz)
  own : ∀ g, v'.ownBlock = some g → v.ownBlock = some g ∨ W.heap.size ≤ g

theorem FrW.trans {br : Nat} {v1 v2 v3 : Value} {A B C : World} (h : FrW br v1 A v2 B) (k : FrW br v2 B v3 C) : FrW br v1 A v3 C :=
  ⟨Nat.le_trans h.size k.size, fun r cs T fz hT hr h1 h2 => k.same r cs T fz hT (h.same r cs T fz hT hr h1 h2) h1 (fun e => by
    have hlt := (Array.getElem?_eq_some_iff.1 hr).1
    rcases h.own r e with h' | h'
    · exact h2 h'
    · omega), fun g hg => by
    rcases k.own g hg with h' | h'
    · exact h.own g h'
    · exact .inr (Nat.le_trans h.size h')⟩
theorem FrW.keeps {br : Nat} {v : Value} {A B : World} (h : KeepsS WalkT A B) : FrW br v A v B := ⟨h.size, fun r cs T fz hT hr _ _ => h.same r cs T fz hT hr, fun _ h => .inl h⟩
theorem keepsS_below {A B : World} (h : Below A.heap.size A B) : KeepsS WalkT A B := ⟨h.size, fun r cs T fz _ hr => (h.block r (Array.getElem?_eq_some_iff.1 hr).1).trans hr⟩
theorem FrW.brow {br : Nat} {v v' k : Value} {A B : World} {L : List UInt8} (h : FrW br v A v' B) (hk : BRow A k L) (hne : ∀ g, k.ownBlock = some g → g ≠ br ∧ v.ownBlock ≠ some g) : BRow B k L := hk.same fun g hg => by
  obtain ⟨cs, fz, hc⟩ := hk.mem hg
  rw [hc]
  exact h.same g cs _ fz (by simp [WalkT]) hc (hne g hg).1 (hne g hg).2

theorem WalkSt.kept {w : World} {n0 B l yb br bf : Nat} {row : List UInt8} {v : Value} {W W' : World} (h : WalkSt w n0 B l yb br bf row v W) (hk : KeepsS WalkT W W') (hb : Below n0 W W') : WalkSt w n0 B l yb br bf row v W' := by
  refine ⟨h.fr.trans hb, h.low, h.in0, hk.same _ _ _ _ (by simp [WalkT]) h.y, hk.same _ _ _ _ (by simp [WalkT]) h.f, hk.same _ _ _ _ (by simp [WalkT]) h.r, h.rb.same fun g hg => ?_, h.ro, h.b⟩
  obtain ⟨cs, fz, hc⟩ := h.rb.mem hg
  rw [hc]
  exact hk.same _ _ _ _ (by simp [WalkT]) hc

theorem boxed_ne {W : World} {b b' : Nat} {t t' : TypeId} {u u' : Value} (h : Boxed W b t u) (h' : Boxed W b' t' u') (hne : t ≠ t') : b ≠ b' := fun e => by
  subst e
  have h1 : W.heap[b]? = some (.cells #[u] t (0, 0)) := h
  have h2 : W.heap[b]? = some (.cells #[u'] t' (0, 0)) := h'
  rw [h1] at h2
  cases h2
  exact hne rfl

theorem grownBy_below {W W' : World} (h : Below W.heap.size W W') : W.grownBy W' none := ⟨h.os, h.tape, h.output, h.size, fun k hk _ => h.block k hk⟩

theorem WalkSt.below {w : World} {n0 B l yb br bf : Nat} {row : List UInt8} {v : Value} {W W' : World} (h : WalkSt w n0 B l yb br bf row v W) (hb : Below W.heap.size W W') : WalkSt w n0 B l yb br bf row v W' := h.kept (keepsS_below hb) (hb.mono (Nat.le_trans h.in0 h.fr.size))

/-- A block that is turned, of one of these types. -/
theorem WalkSt.pushed {w : World} {n0 B l yb br bf : Nat} {row : List UInt8} {v v' : Value} {W w1 : World} {x : UInt8} {J : World → Prop} (h : WalkSt w n0 B l yb br bf row v W) (ho : Onto (W.alloc (.cells #[enc8 x] 5)) w1 v v') (hr : BRow w1 v' (row ++ [x])) (hJ : BidesS B WalkT J) (hj : J W) (hB : B ≤ W.heap.size) :
    Boxed w1 br 58 v ∧ WalkSt w n0 B l yb br bf (row ++ [x]) v' (w1.setCell ⟨br, 0, none⟩ v') ∧ FrW br v W v' (w1.setCell ⟨br, 0, none⟩ v') ∧ J (w1.setCell ⟨br, 0, none⟩ v') := by
  have hb0 : Below W.heap.size W (W.alloc (.cells #[enc8 x] 5)) := (Below.refl _ W).alloc (Nat.le_refl _) _
  have hz0 : (W.alloc (.cells #[enc8 x] 5)).heap.size = W.heap.size + 1 := by simp
  have h1 := h.kept (keepsS_below hb0) (hb0.mono (Nat.le_trans h.in0 h.fr.size))
  have hj1 : J (W.alloc (.cells #[enc8 x] 5)) := hJ _ _ none hj (grownBy_below hb0) (fun r e => by cases e)
  have f1 : FrW br v W v (W.alloc (.cells #[enc8 x] 5)) := FrW.keeps (keepsS_below hb0)
  generalize W.alloc (.cells #[enc8 x] 5) = W1 at ho h1 hj1 f1 hz0
  clear hb0 hj
  have hg := ho.grown
  have hty : ∀ r, v.ownBlock = some r → B ≤ r ∧ ∃ cs fz, W1.heap[r]? = some (.cells cs 5 fz) := fun r e => ⟨h1.ro r e, h1.rb.mem e⟩
  have off : ∀ {b : Nat} {t : TypeId} {u : Value}, t ≠ 5 → Boxed W1 b t u → Boxed w1 b t u := fun {b} {t} {u} hne hb => hb.kept hg (fun e => by
    obtain ⟨_, cs, fz, hc⟩ := hty b e.symm
    rw [show W1.heap[b]? = _ from hb] at hc
    cases hc
    exact hne rfl)
  have hj2 : J w1 := hJ _ _ _ hj1 hg (fun r e => by
    obtain ⟨h1, cs, fz, hc⟩ := hty r e
    exact ⟨h1, cs, _, fz, hc, by simp [WalkT]⟩)
  have y2 := off (by decide) h1.y
  have g2 := off (by decide) h1.f
  have r2 := off (by decide) h1.r
  have b2 : Below n0 W1 w1 := (Below.refl _ W1).grown hg (Nat.le_trans h1.in0 h1.fr.size) (fun r e => Nat.le_trans h1.low (hty r e).1)
  have f2 : FrW br v W1 v' w1 := ⟨hg.size, fun k cs T fz _ hk _ hne => (hg.block k (Array.getElem?_eq_some_iff.1 hk).1 (fun e => hne e.symm)).trans hk, fun g e => by
    rcases ho with ⟨h', _⟩ | ⟨⟨g', h', h''⟩, _⟩
    · exact .inl (by rw [← h', e])
    · rw [h'] at e; cases e; exact .inr h''⟩
  have hO : ∀ g, v'.ownBlock = some g → B ≤ g := fun g e => by
    rcases f2.own g e with h' | h'
    · exact h1.ro g h'
    · omega
  have hgr := grownBy_setCell' w1 br v'
  have off3 : ∀ {b : Nat} {t : TypeId} {u : Value}, t ≠ 58 → Boxed w1 b t u → Boxed (w1.setCell ⟨br, 0, none⟩ v') b t u := fun {b} {t} {u} hne hb => hb.kept hgr (fun e => by cases e; exact boxed_ne hb r2 hne rfl)
  have hne : ∀ g, v'.ownBlock = some g → some g ≠ some br := fun g e e' => by
    cases e'
    obtain ⟨cs, fz, hc⟩ := hr.mem e
    have e2 : w1.heap[br]? = some (.cells #[v] 58 (0, 0)) := r2
    rw [e2] at hc
    cases hc
  refine ⟨r2, ⟨(h1.fr.trans b2).trans ((Below.refl _ w1).grown hgr (by have := h1.fr.size; have := hg.size; have := h1.in0; omega) (fun r e => by cases e; exact Nat.le_trans h1.low h1.b.2.1)), h1.low, h1.in0, off3 (by decide) y2, off3 (by decide) g2, r2.set v', hr.kept hgr hne, hO, h1.b⟩, ?_, hJ _ _ _ hj2 hgr (fun r e => by
    cases e
    exact ⟨h1.b.2.1, _, _, _, (r2 : w1.heap[br]? = some (.cells #[v] 58 (0, 0))), by simp [WalkT]⟩)⟩
  exact (f1.trans f2).trans ⟨hgr.size, fun k cs T fz _ hk hkb _ => (hgr.block k (Array.getElem?_eq_some_iff.1 hk).1 (fun e => hkb (by cases e; rfl))).trans hk, fun g e => .inl e⟩

theorem WalkSt.popped {w : World} {n0 B l yb br bf g c : Nat} {row : List UInt8} {W : World} {x : UInt8} {J : World → Prop} (h : WalkSt w n0 B l yb br bf (row ++ [x]) (.slice (some ⟨g, 0, none⟩) (row.length + 1) c) W) (hJ : BidesS B WalkT J) (hj : J W) :
    WalkSt w n0 B l yb br bf row (.slice (some ⟨g, 0, none⟩) row.length c) (W.setCell ⟨br, 0, none⟩ (.slice (some ⟨g, 0, none⟩) row.length c)) ∧ FrW br (.slice (some ⟨g, 0, none⟩) (row.length + 1) c) W (.slice (some ⟨g, 0, none⟩) row.length c) (W.setCell ⟨br, 0, none⟩ (.slice (some ⟨g, 0, none⟩) row.length c)) ∧ J (W.setCell ⟨br, 0, none⟩ (.slice (some ⟨g, 0, none⟩) row.length c)) := by
  have hgr := grownBy_setCell' W br (.slice (some ⟨g, 0, none⟩) row.length c)
  have off3 : ∀ {b : Nat} {t : TypeId} {u : Value}, t ≠ 58 → Boxed W b t u → Boxed (W.setCell ⟨br, 0, none⟩ (.slice (some ⟨g, 0, none⟩) row.length c)) b t u := fun {b} {t} {u} hne hb => hb.kept hgr (fun e => by cases e; exact boxed_ne hb h.r hne rfl)
  have hr : BRow W (.slice (some ⟨g, 0, none⟩) row.length c) row := h.rb.pre (g := g) (c := c) rfl rfl (List.prefix_append ..)
  have hne : ∀ g', (Value.slice (some ⟨g, 0, none⟩) row.length c).ownBlock = some g' → some g' ≠ some br := fun g' e e' => by
    cases e'
    obtain ⟨cs, fz, hc⟩ := hr.mem e
    have e2 : W.heap[br]? = some (.cells #[_] 58 (0, 0)) := h.r
    rw [e2] at hc
    cases hc
  exact ⟨⟨h.fr.grown hgr (Nat.le_trans h.in0 h.fr.size) (fun r e => by cases e; exact Nat.le_trans h.low h.b.2.1), h.low, h.in0, off3 (by decide) h.y, off3 (by decide) h.f, h.r.set _, hr.kept hgr hne, h.ro, h.b⟩,
    ⟨hgr.size, fun k cs T fz _ hk hkb _ => (hgr.block k (Array.getElem?_eq_some_iff.1 hk).1 (fun e => hkb (by cases e; rfl))).trans hk, fun g e => .inl e⟩,
    hJ _ _ _ hj hgr (fun r e => by
      cases e
      exact ⟨h.b.2.1, _, _, _, (h.r : W.heap[br]? = some (.cells #[_] 58 (0, 0))), by simp [WalkT]⟩)⟩

theorem wpListIn_append_brow {F : Fence} {n : Nat} {ops : Array Oper} {rest : List Oper} {o : Oper} {a : Act} {w : World} {Q : Exit → Act → World → Prop} (hgd : o.guard = none) (s x : Operand)
    (ho : o.op = .call { callee := .builtin .append, args := #[s, x], argTypes := #[58, 58] }) (hty : o.type = 58)
    (v : Value) (l : List UInt8) (ad : Addr) (m c : Nat) (news : List UInt8) (hs : a.eval s = v) (hx : a.eval x = .slice (some ad) m c) (hl : news.length = m) (hnews : ∀ j u, (bys news)[j]? = some u → w.cell? (ad.add j) = some u) (hv : BRow w v l) (hlen : l.length + m ≤ 1000000)
    (h : ∀ v' w', BRow w' v' (l ++ news) → Onto w w' v v' → wpListIn F n Try.prog ops Q rest (a.put o.dst v') w') :
    wpListIn F n Try.prog ops Q (o :: rest) a w := by
  refine wpListIn_plain hgd fun K hK => ?_
  obtain ⟨v', w1, h1, h2, h3⟩ := run_append_brow w v l ad m c news hl hnews hv hlen
  unfold Oper.wpIn
  refine ⟨by simp [Oper.about, ho, resolve, Target.leads, Sem.run_pure], ?_⟩
  rw [Oper.semAt_plain F _ _ (by rw [ho]; intro c hc'; cases hc')]
  simp [execOp, ho, hty, resolve, invoke, builtin, hs, hx, h1, Result.andThen]
  exact hK _ _ (h v' w1 h2 h3)
end Go.Proofs.Ytmfchlbafpkgaaa
namespace Go.Proofs.Ytmfchlbafpkgaaa
open Go.RowKit Go.Shelf

attribute [local go_sem] Oper.semAt_some

theorem BRow.form1 {w : World} {v : Value} {row : List UInt8} {x : UInt8} (h : BRow w v (row ++ [x])) : ∃ g c, v = .slice (some ⟨g, 0, none⟩) (row.length + 1) c ∧ row.length + 1 ≤ c ∧ c ≤ 9223372036854775807 := by
  rcases h with ⟨_, h⟩ | ⟨g, c, _, h, h1, h2, _⟩
  · simp at h
  · exact ⟨g, c, by rw [h, List.length_append]; rfl, by simpa using h1, h2⟩

abbrev Visit := List UInt8 × Option (Nat × Bool)

/-- What yield promises. -/
def YieldsS (w : World) (n0 l : Nat) (J : List Visit → World → Prop) (S : List Visit) : Prop :=
  ∀ pre x args W1, pre ++ [x] <+: S → Below n0 w W1 → J pre W1 → VisitAt x args W1 → ∀ m, YieldAt Fence.wide m Try.prog l args W1 fun e W' => e = .returned (.bool true) ∧ J (pre ++ [x]) W' ∧ KeepsS WalkT W1 W' ∧ Below n0 W1 W'

/-- The walk from a node on. -/
def FromAt (w : World) (n0 B l yb br bf : Nat) (J : List Visit → World → Prop) (S : List Visit) (d : Nat) : Prop :=
  ∀ (t : Tr) (q : Nat) (row : List UInt8) (v : Value) (pre : List Visit) (W : World), NodeO (fun k => k < n0) w t (some q) → Tr.Slim d t → row.length + d ≤ 1000000 → pre ++ t.visits row <+: S → WalkSt w n0 B l yb br bf row v W → B ≤ W.heap.size → J pre W →
    Calls Try.prog 91 #[.pointer (some ⟨q, 0, none⟩), .pointer (some ⟨yb, 0, none⟩), .pointer (some ⟨br, 0, none⟩), .pointer (some ⟨bf, 0, none⟩)] W fun e W' => e = .returned (.bool true) ∧ ∃ v', WalkSt w n0 B l yb br bf row v' W' ∧ FrW br v W v' W' ∧ J (pre ++ t.visits row) W'

set_option maxRecDepth 100000 in
set_option maxHeartbeats 2000000 in
theorem from_step {w : World} {n0 B l yb br bf : Nat} {J : List Visit → World → Prop} {S : List Visit} (hJ : ∀ s, BidesS B WalkT (J s)) (hY : YieldsS w n0 l J S) {d : Nat} (ih : FromAt w n0 B l yb br bf J S d) : FromAt w n0 B l yb br bf J S (d + 1) := by
  intro t q row v pre W hN hS hlen hpre hW hBW hj
  refine (callsIn_wide (n := 8)).1 ?_
  obtain ⟨mv, P, hnil, hq, hM, hO, hways⟩ := hN.there
  obtain ⟨mm, rfl⟩ := hM.shape
  have cy := hW.y.cell
  have cr := hW.r.cell
  have hF : Fence.wide.fn 91 := trivial
  have hv := Tr.visits_eq t row hnil
  have hV : VisitAt (row, t.val) #[v, .pointer (some ⟨q, 0, none⟩)] W := ⟨v, q, _, rfl, hW.rb, (hW.fr.block q hO.1).trans hq⟩
  have hp1 : pre ++ [(row, t.val)] <+: S := by
    refine List.IsPrefix.trans ⟨t.keys.flatMap fun b => (t.way b).visits (row ++ [b]), ?_⟩ hpre
    rw [hv, List.append_assoc]; rfl
  have HW := Lib.hid hW
  have HY := Lib.hid (hY pre (row, t.val) _ W hp1 hW.fr hj hV)
  have HQ := Lib.hid (And.intro hN (And.intro hq (And.intro hM hways)))
  have HP := Lib.hid hpre
  have HV := Lib.hid hv
  clear hN hq hM hways hv hV hp1 hpre
  refine callsIn_of_wp Try.func91 rfl hF ?_ rfl
  simp only [Try.ntmps91, List.size_toArray, List.length_cons, List.length_nil, Nat.reduceAdd, Nat.reduceSub, Array.replicate_succ, Array.replicate_zero, List.push_toArray, List.append_toArray, List.nil_append, List.cons_append]
  obtain ⟨fn, tmps, assign, body, hy, hR⟩ := HY.out 7
  gi_wp2
  refine hR.mono ?_
  rintro e W1 ⟨rfl, hj1, hk1, hb1⟩
  have hW1 := HW.out.kept hk1 hb1
  have fr1 : FrW br v W v W1 := FrW.keeps hk1
  have hN1 : NodeAt W1 t (some q) := HQ.out.1.kept (fun _ _ => trivial) (fun k hk _ => hW1.fr.block k hk)
  have qr := rising_any t q W1 hN1 hS.1
  clear hy hR hk1 cy cr hN1
  gi_wp2
  refine ⟨trivial, (callsIn_wide.2 qr).mono ?_⟩
  rintro e W2 ⟨kv, rfl, hrow, hb2⟩
  clear qr
  have hB1 : B ≤ W1.heap.size := Nat.le_trans hBW fr1.size
  have hW2 := hW1.below hb2
  have fr2 : FrW br v W v W2 := fr1.trans (FrW.keeps (keepsS_below hb2))
  have hj2 : J (pre ++ [(row, t.val)]) W2 := hJ _ _ _ none hj1 (grownBy_below hb2) (fun r e => by cases e)
  have hk : BRow W2 kv t.keys := brow_of_owns hrow
  have hkn : ∀ g, kv.ownBlock = some g → g ≠ br ∧ v.ownBlock ≠ some g := fun g hg => by
    have h1 : W1.heap.size ≤ g := by
      rcases hrow.2 with ⟨rfl, _⟩ | ⟨g', cap, cur, rfl, h, _⟩
      · cases hg
      · cases hg; exact h
    exact ⟨fun e => by have := hW1.r.lt; omega, fun e => by have := hW1.rb.own_lt g e; omega⟩
  have hB2 : B ≤ W2.heap.size := Nat.le_trans hB1 hb2.size
  have hwk := fun b => (Tr.mem_keys t b).1
  have hsl := hS.2
  have HK := Lib.hid (And.intro hk hkn)
  have H2 := Lib.hid (And.intro hW2 (And.intro fr2 hj2))
  obtain ⟨ad, c, rfl, hlc, hc63⟩ := hk.shape
  obtain ⟨L, hL⟩ : ∃ L, L = t.keys := ⟨_, rfl⟩
  obtain ⟨f, hf⟩ : ∃ f : UInt8 → List Visit, f = fun b => (t.way b).visits (row ++ [b]) := ⟨_, rfl⟩
  have hLl : L.length < 50 := by rw [hL]; exact hS.1
  rw [← hL] at hk hlc hwk HK HV hrow ⊢
  rw [← hf] at HV
  have HL := Lib.hid hL
  have HF := Lib.hid hf
  clear hL hf
  clear hk hrow hb2 hb1 hj hj1 hW hW1 hW2 fr1 fr2 hj2 hkn
  gi_wp2
  gi_loopw [7, 16] (fun _ v16 wr => ∃ (k : Nat) (vr : Value), v16 = .int .i64 k ∧ k ≤ L.length ∧ WalkSt w n0 B l yb br bf row vr wr ∧ FrW br v W2 vr wr ∧ J (pre ++ (row, t.val) :: (L.take k).flatMap f) wr) (fun _ v16 _ => L.length - (intOf v16).toNat)
  case atStart => exact ⟨0, v, rfl, Nat.zero_le _, H2.out.1, FrW.keeps (KeepsS.refl _ _), by rw [List.take_zero]; exact H2.out.2.2⟩
  case round =>
    obtain ⟨k, vr, rfl, hkl, hWr, frr, hjr⟩ := hrel
    by_cases hlt : k < L.length
    · obtain ⟨x, hx⟩ : ∃ x, x = L[k] := ⟨_, rfl⟩
      have hkw := frr.brow HK.out.1 HK.out.2
      obtain ⟨g, rfl⟩ : ∃ g, ad = some ⟨g, 0, none⟩ := by
        rcases hkw with ⟨_, h⟩ | ⟨g, _, _, h, _⟩
        · rw [h] at hlt; simp at hlt
        · cases h; exact ⟨g, rfl⟩
      have hck : wr.cell? ⟨g, k, none⟩ = some (.int .u8 (x.toNat : Int)) := hkw.cells.2 k _ (by simp [bys, hx, hlt])
      have cr := hWr.r.cell
      have HWr := Lib.hid (And.intro hWr (And.intro frr hjr))
      have hBr : B ≤ wr.heap.size := Nat.le_trans hB2 frr.size
      have HX := Lib.hid hx
      clear hkw hx
      have HRB := Lib.hid hWr.rb
      clear hWr frr hjr
      gi_wp2_with (gi_at_builtin; refine wpListIn_append_brow rfl _ _ rfl rfl vr row ⟨wr.heap.size, 0, none⟩ 1 1 [x] rfl rfl rfl (cell_one_new _ _ _) (HRB.out.below ((Below.refl _ wr).alloc (Nat.le_refl _) _)) (by omega) ?_; intro v' w1 hr ho; obtain ⟨g', c', rfl, hc1', hc2'⟩ := hr.form1; obtain ⟨p1, p2, p3, p4⟩ := HWr.out.1.pushed ho hr (hJ _) HWr.out.2.2 hBr; have hc1 := p1.cell; have hf1 := p1.frozen; have HP3 := Lib.hid (And.intro p2 (And.intro p3 p4)); clear p1 p2 p3 p4 hr ho)
      clear hc1 hf1 hck cr
      generalize w1.setCell ⟨br, 0, none⟩ (.slice (some ⟨g', 0, none⟩) (row.length + 1) c') = W3 at HP3 ⊢
      obtain ⟨hW3, fr3, hj3⟩ := HP3.out
      have hxk : x ∈ L := by rw [HX.out]; exact List.getElem_mem _
      have hnx := hwk x hxk
      obtain ⟨q2, hq2⟩ : ∃ q2, P x = some q2 := Option.isSome_iff_exists.1 (by rw [(HQ.out.2.2.2 x).isSome, hnx]; rfl)
      have cf := hW3.f.cell
      have cq : W3.cell? ⟨q, 3, none⟩ = some (.map mm) := by
        have := (hW3.fr.block q hO.1).trans HQ.out.2.1
        simp [World.cell?, this]
      have hbd := (Below.refl W3.heap.size W3).drew
      have hlD : (Instr.lookup 107 (.map mm) (.int .u8 (x.toNat : Int)) false).run Try.prog W3.drew = .ok (.pointer (some ⟨q2, 0, none⟩)) W3.drew := by
        have h0 := (show NMap W3.drew (.map mm) P from HQ.out.2.2.1.same (fun m hm => hW3.fr.drew.block m (hO.2 m hm))).look x
        rw [hq2] at h0
        exact h0
      have hWd := hW3.below (hbd.mono (Nat.le_refl _))
      have fr4 : FrW br _ W2 _ W3.drew := (HWr.out.2.1.trans fr3).trans (FrW.keeps (keepsS_below hbd))
      have hj4 : J (pre ++ (row, t.val) :: (L.take k).flatMap f) W3.drew := hJ _ _ _ none hj3 (grownBy_below hbd) (fun r e => by cases e)
      have hpr : (pre ++ (row, t.val) :: (L.take k).flatMap f) ++ f x ++ (L.drop (k + 1)).flatMap f = pre ++ t.visits row := by
        rw [HV.out, HX.out, List.append_assoc, List.append_assoc, List.cons_append, ← List.flatMap_cons, ← List.flatMap_append, ← List.drop_eq_getElem_cons hlt, List.take_append_drop]
      have hfx : f x = (t.way x).visits (row ++ [x]) := by rw [HF.out]
      have qc := ih (t.way x) q2 (row ++ [x]) _ _ W3.drew (by have := HQ.out.2.2.2 x; rw [hq2] at this; exact this) (hsl x) (by rw [List.length_append]; simp; omega) (by rw [← hfx]; exact List.IsPrefix.trans ⟨_, hpr⟩ HP.out) hWd (Nat.le_trans hB2 fr4.size) hj4
      have HZ := Lib.hid (And.intro hpr (And.intro fr4 hfx))
      clear hW3 fr3 hj3 hWd fr4 hj4 hpr hbd hfx hxk hnx
      refine wpIn_wide.2 ?_
      go_still_tail 7, (by kernel_rfl)
      clear hlD cf cq
      go_wp2_with (go_at_call 91; (with_reducible refine qc.mono ?_); rintro e W4 ⟨rfl, v4, hW4, fr5, hj5⟩; have H5 := Lib.hid (And.intro hW4 (And.intro fr5 hj5)); clear hW4 fr5 hj5 qc)
      obtain ⟨g4, c4, rfl, hc4, hc4'⟩ := H5.out.1.rb.form1
      have cr4 := H5.out.1.r.cell
      have fz4 := H5.out.1.r.frozen
      obtain ⟨p5, f5, j5⟩ := H5.out.1.popped (hJ _) H5.out.2.2
      have H6 := Lib.hid (And.intro p5 (And.intro f5 j5))
      clear p5 f5 j5
      have hrl : row.length < 1000000 := by omega
      gi_wp2
      refine ⟨⟨k + 1, _, by go_num, by omega, H6.out.1, (HZ.out.2.1.trans H5.out.2.1).trans H6.out.2.1, ?_⟩, by simp [intOf]; omega⟩
      have he : pre ++ (row, t.val) :: (L.take (k + 1)).flatMap f = (pre ++ (row, t.val) :: (L.take k).flatMap f) ++ (t.way x).visits (row ++ [x]) := by
        rw [← HZ.out.2.2, HX.out, List.append_assoc, List.cons_append, List.take_succ_eq_append_getElem hlt, List.flatMap_append]
        simp
      rw [he]
      exact H6.out.2.2
    · have HE : Hid (k = L.length) := Lib.hid (by omega)
      gi_wp2
      go_ret
      refine ⟨rfl, vr, hWr, H2.out.2.1.trans frr, ?_⟩
      rw [HV.out, ← List.take_length (l := L), ← HE.out]
      exact hjr

theorem from_all {w : World} {n0 B l yb br bf : Nat} {J : List Visit → World → Prop} {S : List Visit} (hJ : ∀ s, BidesS B WalkT (J s)) (hY : YieldsS w n0 l J S) : ∀ d, FromAt w n0 B l yb br bf J S d
  | 0 => fun t q _ _ _ _ hN hS _ _ _ _ _ => by
    obtain ⟨_, _, h, _⟩ := hN.there
    have h0 : t.isNil = true := hS
    rw [h0] at h
    cases h
  | d + 1 => from_step hJ hY (from_all hJ hY d)
end Go.Proofs.Ytmfchlbafpkgaaa
namespace Go.Proofs.Ytmfchlbafpkgaaa
open Go.RowKit Go.Shelf

attribute [local go_sem] Oper.semAt_some

theorem walk_starts {w W Wb : World} {n0 l : Nat} (hn0 : n0 ≤ w.heap.size) {row : List UInt8} {v : Value} (hW : Below w.heap.size w W) (hbb : Below W.heap.size W Wb) (hz : Wb.heap.size = W.heap.size + 2) (hy : Boxed Wb W.heap.size 145 (.func (.yield l) #[] #[])) (hrow : BRow Wb v row) (hv : ∀ g, v.ownBlock = some g → W.heap.size ≤ g) :
    WalkSt w n0 W.heap.size l W.heap.size (W.heap.size + 2) (W.heap.size + 2 + 1) row v ((Wb.alloc (.cells #[v] 58)).alloc (.cells #[.func (.func 91) #[] #[.pointer (some ⟨W.heap.size, 0, none⟩), .pointer (some ⟨W.heap.size + 2, 0, none⟩), .pointer (some ⟨W.heap.size + 2 + 1, 0, none⟩)]] 146)) ∧
    Below W.heap.size W ((Wb.alloc (.cells #[v] 58)).alloc (.cells #[.func (.func 91) #[] #[.pointer (some ⟨W.heap.size, 0, none⟩), .pointer (some ⟨W.heap.size + 2, 0, none⟩), .pointer (some ⟨W.heap.size + 2 + 1, 0, none⟩)]] 146)) := by
  have b1 : Below Wb.heap.size Wb (Wb.alloc (.cells #[v] 58)) := (Below.refl _ Wb).alloc (Nat.le_refl _) _
  have r1 : Boxed (Wb.alloc (.cells #[v] 58)) Wb.heap.size 58 v := Boxed.new Wb _ _
  have z1 : (Wb.alloc (.cells #[v] 58)).heap.size = Wb.heap.size + 1 := by simp
  generalize Wb.alloc (.cells #[v] 58) = W1 at b1 r1 z1 ⊢
  obtain ⟨F, hF⟩ : ∃ F : Value, F = .func (.func 91) #[] #[.pointer (some ⟨W.heap.size, 0, none⟩), .pointer (some ⟨W.heap.size + 2, 0, none⟩), .pointer (some ⟨W.heap.size + 2 + 1, 0, none⟩)] := ⟨_, rfl⟩
  rw [← hF]
  have b2 : Below W1.heap.size W1 (W1.alloc (.cells #[F] 146)) := (Below.refl _ W1).alloc (Nat.le_refl _) _
  have r2 : Boxed (W1.alloc (.cells #[F] 146)) W1.heap.size 146 F := Boxed.new W1 _ _
  generalize W1.alloc (.cells #[F] 146) = W2 at b2 r2 ⊢
  have b3 : Below Wb.heap.size Wb W2 := b1.trans (b2.mono b1.size)
  have b4 : Below W.heap.size W W2 := hbb.trans (b3.mono hbb.size)
  rw [hz] at r1 z1
  rw [z1] at r2
  exact ⟨⟨(hW.trans (b4.mono hW.size)).mono hn0, Nat.le_trans hn0 hW.size, hn0, boxed_below hy b3, hF ▸ r2, boxed_below r1 b2, hrow.below b3, hv, ⟨Nat.le_refl _, by omega, by omega⟩⟩, b4⟩

set_option maxRecDepth 100000 in
set_option maxHeartbeats 2000000 in
theorem walk_iter {w : World} {t : Tr} {p : Option Nat} {s : ByteArray} {n0 nb bb d : Nat} (hn0 : n0 ≤ w.heap.size) (hN : NodeO (fun k => k < n0) w t p) (hn : w.cell? ⟨nb, 0, none⟩ = some (ptrV p)) (hb : w.cell? ⟨bb, 0, none⟩ = some (.string s)) (hnl : nb < w.heap.size) (hbl : bb < w.heap.size) (hS : Tr.Slim d t) (hlen : s.size + d ≤ 1000000) (n : Nat) :
    IterAt n Try.prog 90 #[.pointer (some ⟨nb, 0, none⟩), .pointer (some ⟨bb, 0, none⟩)] WalkT VisitAt (t.visits s.data.toList) n0 w := by
  intro l J W hW hJ hY h0
  refine callsIn_wide.2 ((callsIn_wide (n := 8)).1 ?_)
  have c1 := (hW.cell (p := ⟨nb, 0, none⟩) hnl).trans hn
  have c2 := (hW.cell (p := ⟨bb, 0, none⟩) hbl).trans hb
  have hnW : nb < W.heap.size := Nat.lt_of_lt_of_le hnl hW.size
  have hbW : bb < W.heap.size := Nat.lt_of_lt_of_le hbl hW.size
  have hF : Fence.wide.fn 90 := trivial
  refine callsIn_of_wp Try.func90 rfl hF ?_ rfl
  simp only [Try.ntmps90, List.size_toArray, List.length_cons, List.length_nil, Nat.reduceAdd, Nat.reduceSub, Array.replicate_succ, Array.replicate_zero, List.push_toArray, List.append_toArray, List.nil_append, List.cons_append]
  have hy0 : Below W.heap.size W (W.alloc (.cells #[.func (.yield l) #[] #[]] 145)) := (Below.refl _ W).alloc (Nat.le_refl _) _
  obtain ⟨Wa, hWa⟩ : ∃ Wa, Wa = W.alloc (.cells #[.func (.yield l) #[] #[]] 145) := ⟨_, rfl⟩
  cases p with
  | none =>
    obtain rfl := hN.gone
    have HJ0 := Lib.hid (hJ [] _ _ none h0 (grownBy_below hy0) (fun r e => by cases e))
    replace c1 : W.cell? ⟨nb, 0, none⟩ = some (.pointer none) := c1
    clear hWa
    gi_wp2
    exact bodyPost_ret (v := .tuple #[]) (by simp [results, Try.results90, go_sem]) rfl ⟨⟨_, rfl⟩, HJ0.out⟩
  | some q =>
    replace c1 : W.cell? ⟨nb, 0, none⟩ = some (.pointer (some ⟨q, 0, none⟩)) := c1
    have hconv := Lib.run_convert_string_bytes (P := Try.prog) Wa 9 58 5 s Try.underlying9 Try.underlying58 Try.underlying5
    obtain ⟨c0, hc0⟩ : ∃ c0, c0 = grownCap Wa s.size 0 5 := ⟨_, rfl⟩
    obtain ⟨Wb, hWb⟩ : ∃ Wb, Wb = Lib.bytesWorld Wa 5 s := ⟨_, rfl⟩
    have hzb : Wb.heap.size = W.heap.size + 2 := by rw [hWb, Lib.bytesWorld_size, hWa]; simp
    have hza : Wa.heap.size = W.heap.size + 1 := by rw [hWa]; simp
    have HWb := Lib.hid (And.intro hWb hc0)
    rw [← hc0, ← hWb, hza, hWa] at hconv
    have hbb : Below W.heap.size W Wb := by
      rw [hWb, hWa]
      exact hy0.trans ((below_conv _ s).mono hy0.size)
    have c3 := (hbb.cell (p := ⟨nb, 0, none⟩) hnW).trans c1
    have hnb : nb < Wb.heap.size := by omega
    have hn2 : nb < W.heap.size + 2 := by omega
    have hn3 : nb < W.heap.size + 2 + 1 := by omega
    have HB := Lib.hid hbb
    have hrow : BRow Wb (.slice (some ⟨W.heap.size + 1, 0, none⟩) s.size c0) s.data.toList := by
      have h1 := conv_brow Wa s (by omega)
      rw [hza] at h1
      rw [hWb, hc0]
      exact h1
    have hyb : Boxed Wb W.heap.size 145 (.func (.yield l) #[] #[]) := by
      have h1 : Boxed Wa W.heap.size 145 (.func (.yield l) #[] #[]) := hWa ▸ Boxed.new W 145 _
      exact hWb ▸ boxed_below h1 (below_conv Wa s)
    have HST := Lib.hid (walk_starts hn0 hW hbb hzb hyb hrow (fun g hg => (by simpa [Value.ownBlock] using hg : W.heap.size + 1 = g) ▸ Nat.le_succ _))
    clear hWb hc0 hza hWa hbb hrow hyb
    have hsf := fun (W : World) (a : Addr) (fn : Fn) (first captured : Array Value) (m : Mode) => run_store Try.prog W a (.func fn first captured) m rfl
    gi_wp2
    obtain ⟨hst, hbf⟩ := HST.out
    refine ⟨trivial, callsIn_wide.2 ((from_all hJ hY d t q s.data.toList _ [] _ hN hS (by rw [ba_length]; exact hlen) (List.prefix_rfl) hst hbf.size (hJ _ _ _ none h0 (grownBy_below hbf) (fun r e => by cases e))).mono ?_)⟩
    rintro e W9 ⟨rfl, v', -, -, hj9⟩
    gi_wp2
    go_end0
    exact ⟨⟨_, rfl⟩, by simpa using hj9⟩

set_option maxHeartbeats 1000000 in
theorem walk_fn (p : Option Nat) (s : ByteArray) (w : World) : Calls Try.prog 59 #[ptrV p, .string s] w fun e w' => e = .returned (.func (.func 90) #[] #[.pointer (some ⟨w.heap.size, 0, none⟩), .pointer (some ⟨w.heap.size + 1, 0, none⟩)]) ∧ w' = (w.alloc (.cells #[ptrV p] 47)).alloc (.cells #[.string s] 9) := by
  cases p with
  | none =>
    show Calls Try.prog 59 #[.pointer none, .string s] w _
    go_enter Try.func59, Try.ntmps59
    go_wp2
    go_ret
    exact ⟨rfl, rfl⟩
  | some q =>
    show Calls Try.prog 59 #[.pointer (some ⟨q, 0, none⟩), .string s] w _
    go_enter Try.func59, Try.ntmps59
    go_wp2
    go_ret
    exact ⟨rfl, rfl⟩
end Go.Proofs.Ytmfchlbafpkgaaa
