/-
  A file of its own, alike: the acts cloned, then the call.
-/
import Derived.Test.YtloijbhilfbliaaFStay
namespace Go.Proofs.Ytloijbhilfbliaa
open Go.RowKit Go.Shelf

theorem owns_base {w : World} {base size n : Nat} {e : TypeId} {v : Value} {xs : List Value} (h : w.ownsRow base e size v n xs) : w.ownsRow 0 e size v n xs := by
  refine ⟨h.1, ?_⟩
  rcases h.2 with h' | ⟨g, cap, cur, h1, _, h3⟩
  · exact .inl h'
  · exact .inr ⟨g, cap, cur, h1, Nat.zero_le _, h3⟩
theorem owns_new {w : World} {base size n : Nat} {e : TypeId} {v : Value} {xs : List Value} (h : w.ownsRow base e size v n xs) : ∀ g, v.ownBlock = some g → base ≤ g := by
  intro g hg
  rcases h.2 with ⟨rfl, _⟩ | ⟨g', cap, cur, rfl, hh, _⟩
  · cases hg
  · cases hg; exact hh

/-- An append of a row of acts to one of the call's own: what a walk goes on with. -/
theorem wpList_append_acts {w : World} {ops : Array Oper} {rest : List Oper} {o : Oper} {a : Act} {Q : Exit → Act → World → Prop} (hgd : o.guard = none) (s x : Operand)
    (hop : o.op = Op.call { callee := Callee.builtin Builtin.append, args := #[s, x], argTypes := #[55, 55] }) (ht : o.type = 55) (base : Nat) (v : Value) (n : Nat) (fs : List Value) (ad : Addr) (m c : Nat) (news : List Value)
    (hs : a.eval s = v) (hx : a.eval x = .slice (some ad) m c) (hl : news.length = m) (hc : ∀ j u, news[j]? = some u → w.cell? (ad.add j) = some u) (hf : ∀ u ∈ news, u.oneCell' = true) (hv : w.ownsRow base 61 1 v n fs) (hb : base ≤ w.heap.size) (hlen : n + m ≤ 1000000)
    (h : ∀ v' w', w'.ownsRow base 61 1 v' (n + m) (fs ++ news) → w.grownBy w' v.ownBlock → wpList Try.prog ops Q rest (a.put o.dst v') w') : wpList Try.prog ops Q (o :: rest) a w := by
  obtain ⟨i0, hi, hz0, hz1, hz2⟩ := info_parts i61
  obtain ⟨v', w1, h1, h2, h3, _, _⟩ := run_append_own_at (P := Try.prog) w base 55 55 61 i0 .nilFunc 1 8 Try.underlying55 hi hz0 hz1 hz2 rfl (by decide) v n fs hv ad m c news (by omega)
    hc hf (by unfold maxLen; omega) (by omega) hb
  refine wpList_plain hgd fun _ hK => ?_
  unfold Oper.wp execOp
  simp only [hop, ht, resolve, invoke, builtin, Sem.run_bind, Sem.run_pure, Result.andThen_ok, List.map_toArray, List.map_cons, List.map_nil, hs, hx, h1]
  exact hK _ _ (h v' w1 h2 h3)

theorem nil_is55 (w : World) : Sem.run Try.prog (binOp .eql 55 (.slice none 0 0) (.slice none 0 0)) w = .ok (.bool true) w := by kernel_rfl
theorem nil_no55 (w : World) (a : Addr) (n c : Nat) : Sem.run Try.prog (binOp .eql 55 (.slice (some a) n c) (.slice none 0 0)) w = .ok (.bool false) w := by kernel_rfl

set_option maxHeartbeats 1000000 in
set_option maxRecDepth 100000 in
theorem clone_acts {w : World} {v : Value} {n : Nat} {fs : List Value} (h : w.ownsRow 0 61 1 v n fs) (hn : n ≤ 900000) (h1 : ∀ u ∈ fs, u.oneCell' = true) :
    Calls Try.prog 25 #[v] w fun e w' => ∃ v', e = .returned v' ∧ w'.ownsRow w.heap.size 61 1 v' n fs ∧ Below w.heap.size w w' := by
  have hfl := h.1
  rcases id h with ⟨_, ⟨rfl, rfl⟩ | ⟨g, cap, cur, rfl, _, hg, h2, h3, h4, h5⟩⟩
  · go_enter Try.func25, Try.ntmps25
    have hnil := nil_is55 w
    go_wp2
    go_ret
    exact ⟨_, rfl, ⟨hfl, .inl ⟨rfl, rfl⟩⟩, Below.refl _ _⟩
  · have HC : Hid (∀ j u, fs[j]? = some u → (w.alloc (.cells #[] 61)).cell? ((⟨g, 0, none⟩ : Addr).add j) = some u) := Lib.hid fun j u hj => by
      have hjn : j < n := by have := (List.getElem?_eq_some_iff.1 hj).1; omega
      rw [Addr.add_lit, Nat.zero_add, (below_alloc' (Below.refl _ w)).cell (p := ⟨g, j, none⟩) (Array.getElem?_eq_some_iff.1 hg).1, cell_of_row w g j _ _ _ hg, ← Array.getElem?_toList]
      rw [← h5, List.getElem?_take, if_pos (by omega)] at hj
      exact hj
    have hH := Lib.hid h1
    clear h hg h1
    have hnil := nil_no55 w ⟨g, 0, none⟩ n cap
    go_enter Try.func25, Try.ntmps25
    go_wp2_with (at_builtin; refine wpList_append_acts rfl _ _ rfl rfl w.heap.size (.slice (some ⟨w.heap.size, 0, none⟩) 0 0) 0 [] ⟨g, 0, none⟩ n cap fs rfl rfl (by omega) HC.out hH.out (World.ownsRow_made w #[] 0 (Nat.le_refl _) (Nat.zero_le _) (by simp)) (by simp) (by omega) ?_; intro v' w1 hr ho; have HR := Lib.hid hr; have HO := Lib.hid ho; clear hr ho)
    go_ret
    have hr := HR.out
    have ho := HO.out
    rw [List.nil_append, Nat.zero_add] at hr
    exact ⟨v', rfl, hr, (below_alloc' (Below.refl _ w)).grown ho (by simp) (fun k hk => by cases hk; exact Nat.le_refl _)⟩

/-- The acts' values lie in one cell each. -/
theorem acts_one {w : World} {fs : List Value} {A : List Do} {I : Nat → Prop} (h : ActsAt w fs A I) : ∀ u ∈ fs, u.oneCell' = true := by
  intro u hu
  obtain ⟨i, hi, rfl⟩ := List.mem_iff_getElem.1 hu
  obtain ⟨f, h1, h2⟩ := h.2 i (by rw [← h.1]; exact hi)
  rw [List.getElem?_eq_getElem hi] at h1
  cases h1
  revert h2
  cases A[i]'(by rw [← h.1]; exact hi) with
  | app b => rintro ⟨c, v, h3, _⟩; rw [h3]; rfl
  | cut k => rintro ⟨c, h3, _⟩; rw [h3]; rfl
end Go.Proofs.Ytloijbhilfbliaa
