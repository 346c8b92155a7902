/- The nodes of a tree as they are made: they may be, they have that tree; how many nodes and which words an expression has. No dump is read here. -/
import Derived.Test.YtnaimmhdpjggmaaRx4
namespace Go.Proofs.Ytnaimmhdpjggmaa.U

theorem post_sh (t : RE) : ∀ (b : Nat) (pre suf : List Nd), pre.length = b → Sh (pre ++ (post t b ++ suf)) (b + sz t - 1) t := by
  induction t with
  | none => intro b pre suf h; exact .none (by simp [post, sz, ← h])
  | empty => intro b pre suf h; exact .empty (by simp [post, sz, ← h])
  | sym s => intro b pre suf h; exact .sym (by simp [post, sz, ← h])
  | cat s t i1 i2 =>
    intro b pre suf h
    have p1 := sz_pos s
    have p2 := sz_pos t
    have k1 := i1 b pre (post t (b + sz s) ++ ([⟨3, [], ((b + sz s : Nat) : Int) - 1, ((b + sz s + sz t : Nat) : Int) - 1⟩] ++ suf)) h
    have k2 := i2 (b + sz s) (pre ++ post s b) ([⟨3, [], ((b + sz s : Nat) : Int) - 1, ((b + sz s + sz t : Nat) : Int) - 1⟩] ++ suf) (by rw [List.length_append, post_len, h])
    have e : pre ++ (post (.cat s t) b ++ suf) = pre ++ (post s b ++ (post t (b + sz s) ++ ([⟨3, [], ((b + sz s : Nat) : Int) - 1, ((b + sz s + sz t : Nat) : Int) - 1⟩] ++ suf))) := by rw [post]; simp only [List.append_assoc]
    rw [List.append_assoc, ← e] at k2
    rw [← e] at k1
    refine .cat (a := b + sz s - 1) (b := b + sz s + sz t - 1) ?_ (by rw [sz]; omega) (by rw [sz]; omega) k1 k2
    rw [e, sz, List.getElem?_append_right (by omega), List.getElem?_append_right (by rw [post_len]; omega), List.getElem?_append_right (by rw [post_len, post_len]; omega), post_len, post_len]
    rw [show b + (sz s + sz t + 1) - 1 - pre.length - sz s - sz t = 0 by omega]
    simp
    omega
  | alt s t i1 i2 =>
    intro b pre suf h
    have p1 := sz_pos s
    have p2 := sz_pos t
    have k1 := i1 b pre (post t (b + sz s) ++ ([⟨4, [], ((b + sz s : Nat) : Int) - 1, ((b + sz s + sz t : Nat) : Int) - 1⟩] ++ suf)) h
    have k2 := i2 (b + sz s) (pre ++ post s b) ([⟨4, [], ((b + sz s : Nat) : Int) - 1, ((b + sz s + sz t : Nat) : Int) - 1⟩] ++ suf) (by rw [List.length_append, post_len, h])
    have e : pre ++ (post (.alt s t) b ++ suf) = pre ++ (post s b ++ (post t (b + sz s) ++ ([⟨4, [], ((b + sz s : Nat) : Int) - 1, ((b + sz s + sz t : Nat) : Int) - 1⟩] ++ suf))) := by rw [post]; simp only [List.append_assoc]
    rw [List.append_assoc, ← e] at k2
    rw [← e] at k1
    refine .alt (a := b + sz s - 1) (b := b + sz s + sz t - 1) ?_ (by rw [sz]; omega) (by rw [sz]; omega) k1 k2
    rw [e, sz, List.getElem?_append_right (by omega), List.getElem?_append_right (by rw [post_len]; omega), List.getElem?_append_right (by rw [post_len, post_len]; omega), post_len, post_len]
    rw [show b + (sz s + sz t + 1) - 1 - pre.length - sz s - sz t = 0 by omega]
    simp
    omega
  | star s i1 =>
    intro b pre suf h
    have p1 := sz_pos s
    have k1 := i1 b pre ([⟨5, [], ((b + sz s : Nat) : Int) - 1, 0⟩] ++ suf) h
    have e : pre ++ (post (.star s) b ++ suf) = pre ++ (post s b ++ ([⟨5, [], ((b + sz s : Nat) : Int) - 1, 0⟩] ++ suf)) := by rw [post]; simp only [List.append_assoc]
    rw [← e] at k1
    refine .star (a := b + sz s - 1) ?_ (by rw [sz]; omega) k1
    rw [e, sz, List.getElem?_append_right (by omega), List.getElem?_append_right (by rw [post_len]; omega), post_len]
    rw [show b + (sz s + 1) - 1 - pre.length - sz s = 0 by omega]
    simp
    omega
theorem post_root (t : RE) : Sh (post t 0) ((post t 0).length - 1) t := by
  have := post_sh t 0 [] [] rfl
  rw [post_len]
  simpa using this
theorem post_ok (t : RE) : ∀ (b i : Nat) (n : Nd), (post t b)[i]? = some n → okAt n (b + i) = true := by
  induction t with
  | none | empty =>
    intro b i n h
    cases i with
    | zero => cases h; rfl
    | succ i => simp [post] at h
  | sym s =>
    intro b i n h
    cases i with
    | zero => cases h; rw [okAt_iff]; exact ⟨by simp [okN], by simp [partsN]⟩
    | succ i => simp [post] at h
  | cat s t i1 i2 =>
    intro b i n h
    have p1 := sz_pos s
    have p2 := sz_pos t
    rw [post, List.append_assoc] at h
    by_cases h1 : i < sz s
    · rw [List.getElem?_append_left (by rw [post_len]; exact h1)] at h
      exact i1 b i n h
    · rw [List.getElem?_append_right (by rw [post_len]; omega), post_len] at h
      by_cases h2 : i - sz s < sz t
      · rw [List.getElem?_append_left (by rw [post_len]; exact h2)] at h
        have := i2 _ _ n h
        rwa [show b + sz s + (i - sz s) = b + i by omega] at this
      · rw [List.getElem?_append_right (by rw [post_len]; omega), post_len] at h
        obtain ⟨hi, he⟩ := List.getElem?_eq_some_iff.1 h
        simp only [List.length_singleton] at hi
        simp only [List.getElem_singleton] at he
        subst he
        rw [okAt_iff]
        refine ⟨by simp [okN], fun p hp => ?_⟩
        simp [partsN] at hp
        rcases hp with rfl | rfl <;> omega
  | alt s t i1 i2 =>
    intro b i n h
    have p1 := sz_pos s
    have p2 := sz_pos t
    rw [post, List.append_assoc] at h
    by_cases h1 : i < sz s
    · rw [List.getElem?_append_left (by rw [post_len]; exact h1)] at h
      exact i1 b i n h
    · rw [List.getElem?_append_right (by rw [post_len]; omega), post_len] at h
      by_cases h2 : i - sz s < sz t
      · rw [List.getElem?_append_left (by rw [post_len]; exact h2)] at h
        have := i2 _ _ n h
        rwa [show b + sz s + (i - sz s) = b + i by omega] at this
      · rw [List.getElem?_append_right (by rw [post_len]; omega), post_len] at h
        obtain ⟨hi, he⟩ := List.getElem?_eq_some_iff.1 h
        simp only [List.length_singleton] at hi
        simp only [List.getElem_singleton] at he
        subst he
        rw [okAt_iff]
        refine ⟨by simp [okN], fun p hp => ?_⟩
        simp [partsN] at hp
        rcases hp with rfl | rfl <;> omega
  | star s i1 =>
    intro b i n h
    have p1 := sz_pos s
    rw [post] at h
    by_cases h1 : i < sz s
    · rw [List.getElem?_append_left (by rw [post_len]; exact h1)] at h
      exact i1 b i n h
    · rw [List.getElem?_append_right (by rw [post_len]; omega), post_len] at h
      obtain ⟨hi, he⟩ := List.getElem?_eq_some_iff.1 h
      simp only [List.length_singleton] at hi
      simp only [List.getElem_singleton] at he
      subst he
      rw [okAt_iff]
      refine ⟨by simp [okN], fun p hp => ?_⟩
      simp [partsN] at hp
      subst hp; omega
theorem uses_app (l m : List Nd) : usesL (l ++ m) = usesL l ++ usesL m := by unfold usesL; rw [List.flatMap_append]
theorem count_one (p q : Int) : ([q] : List Int).count p = if q = p then 1 else 0 := by
  rw [List.count_singleton]
  by_cases h : q = p <;> simp [h]
theorem count_pair (p q r : Int) : ([q, r] : List Int).count p = (if q = p then 1 else 0) + if r = p then 1 else 0 := by
  rw [show ([q, r] : List Int) = [q] ++ [r] from rfl, List.count_append, count_one, count_one]
theorem post_use (t : RE) : ∀ (b : Nat) (j : Nat), (usesL (post t b)).count (j : Int) = if b ≤ j ∧ j + 1 < b + sz t then 1 else 0 := by
  induction t with
  | none | empty =>
    intro b j
    rw [if_neg (by rw [sz]; omega)]; rfl
  | sym s =>
    intro b j
    rw [if_neg (by rw [sz]; omega)]; rfl
  | cat s t i1 i2 =>
    intro b j
    have p1 := sz_pos s
    have p2 := sz_pos t
    rw [post, uses_app, uses_app, List.count_append, List.count_append, i1, i2]
    have e : usesL [(⟨3, [], ((b + sz s : Nat) : Int) - 1, ((b + sz s + sz t : Nat) : Int) - 1⟩ : Nd)] = [((b + sz s : Nat) : Int) - 1, ((b + sz s + sz t : Nat) : Int) - 1] := by simp [usesL, partsN]
    rw [e, count_pair, sz]
    repeat' split
    all_goals omega
  | alt s t i1 i2 =>
    intro b j
    have p1 := sz_pos s
    have p2 := sz_pos t
    rw [post, uses_app, uses_app, List.count_append, List.count_append, i1, i2]
    have e : usesL [(⟨4, [], ((b + sz s : Nat) : Int) - 1, ((b + sz s + sz t : Nat) : Int) - 1⟩ : Nd)] = [((b + sz s : Nat) : Int) - 1, ((b + sz s + sz t : Nat) : Int) - 1] := by simp [usesL, partsN]
    rw [e, count_pair, sz]
    repeat' split
    all_goals omega
  | star s i1 =>
    intro b j
    have p1 := sz_pos s
    rw [post, uses_app, List.count_append, i1]
    have e : usesL [(⟨5, [], ((b + sz s : Nat) : Int) - 1, 0⟩ : Nd)] = [((b + sz s : Nat) : Int) - 1] := by simp [usesL, partsN]
    rw [e, count_one, sz]
    repeat' split
    all_goals omega
theorem post_form (t : RE) : formB (post t 0) = true := by
  have p := sz_pos t
  refine form_mk (by rw [post_len]; omega) (fun i n h => by have := post_ok t 0 i n h; rwa [Nat.zero_add] at this) (fun j hj => ?_)
  rw [post_len] at hj
  rw [post_use, if_pos (by omega)]
theorem post_names {t : RE} (h : namesT t = true) : ∀ b, namesB (post t b) = true := by
  unfold namesB
  induction t with
  | none | empty => intro b; rfl
  | sym s => intro b; rw [namesT] at h; simp [post, h]
  | cat s t i1 i2 | alt s t i1 i2 =>
    intro b
    rw [namesT, Bool.and_eq_true] at h
    rw [post, List.all_append, List.all_append, i1 h.1, i2 h.2]
    simp
  | star s i1 =>
    intro b
    rw [namesT] at h
    rw [post, List.all_append, i1 h]
    simp
theorem post_chk {t : RE} (h : namesT t = true) (hs : sz t ≤ 1024) : chkP (post t 0) = 0 := by
  unfold chkP
  rw [if_neg (by rw [post_len]; omega), if_pos (post_form t), if_pos (post_names h 0)]
theorem sh_names {l : List Nd} (hn : namesB l = true) {i : Nat} {t : RE} (h : Sh l i t) : namesT t = true := by
  induction h with
  | none | empty => rfl
  | @sym i s h =>
    unfold namesB at hn
    have := List.all_eq_true.1 hn _ (List.mem_of_getElem? h)
    rw [namesT]
    simpa using this
  | cat _ _ _ _ _ i1 i2 | alt _ _ _ _ _ i1 i2 => rw [namesT, i1, i2]; rfl
  | star _ _ _ i1 => rw [namesT]; exact i1

/-- A sum over the nodes of a tree. -/
def wt (ow : Option Wd → Nat) : RE → Nat
  | .none => ow none
  | .empty => ow none
  | .sym s => ow (some s)
  | .cat s t => wt ow s + wt ow t + ow none
  | .alt s t => wt ow s + wt ow t + ow none
  | .star s => wt ow s + ow none
def owN (ow : Option Wd → Nat) (n : Nd) : Nat := if n.op = 2 then ow (some n.sym) else ow none
open Classical in
noncomputable def trI (l : List Nd) (i : Nat) : RE := if h : ∃ t, Sh l i t then h.choose else .none
theorem trI_eq {l : List Nd} {i : Nat} {t : RE} (h : Sh l i t) : trI l i = t := by
  have h' : ∃ t, Sh l i t := ⟨t, h⟩
  unfold trI
  rw [dif_pos h']
  exact h'.choose_spec.inj h
theorem wt_at (ow : Option Wd → Nat) {l : List Nd} {i : Nat} {n : Nd} {t : RE} (hn : l[i]? = some n) (h : Sh l i t) : wt ow (trI l i) = owN ow n + ((partsN n).map fun p => wt ow (trI l p.toNat)).sum := by
  rw [trI_eq h]
  cases h with
  | none h | empty h | sym h => rw [h] at hn; cases hn; rfl
  | cat h _ _ hs ht | alt h _ _ hs ht =>
    rw [h] at hn
    cases hn
    simp only [partsN, owN, Int.reduceEq, true_or, or_true, if_true, if_false, List.map_cons, List.map_nil, List.sum_cons, List.sum_nil, Int.toNat_natCast]
    rw [trI_eq hs, trI_eq ht, wt]
    omega
  | star h _ hs =>
    rw [h] at hn
    cases hn
    simp only [partsN, owN, Int.reduceEq, or_self, if_true, if_false, List.map_cons, List.map_nil, List.sum_cons, List.sum_nil, Int.toNat_natCast]
    rw [trI_eq hs, wt]
    omega
theorem perm_sum {l m : List Nat} (h : l.Perm m) : l.sum = m.sum := by
  induction h with
  | nil => rfl
  | cons x _ ih => simp [ih]
  | swap x y l => simp; omega
  | trans _ _ i1 i2 => exact i1.trans i2
theorem uses_perm {l : List Nd} (h : formB l = true) : (usesL l).Perm ((List.range (l.length - 1)).map fun j : Nat => (j : Int)) := by
  rw [List.perm_iff_count]
  intro p
  by_cases hp : ∃ j : Nat, j < l.length - 1 ∧ p = j
  · obtain ⟨j, hj, rfl⟩ := hp
    rw [form_use h hj]
    have : (List.map (fun j : Nat => (j : Int)) (List.range (l.length - 1))).Nodup := by
      refine List.Pairwise.map _ ?_ List.nodup_range
      intro a b hab e
      exact hab (cast_inj e)
    have h1 := List.nodup_iff_count.1 this (j : Int)
    have h2 := List.count_pos_iff.2 (List.mem_map.2 ⟨j, List.mem_range.2 hj, rfl⟩ : (j : Int) ∈ (List.range (l.length - 1)).map fun j : Nat => (j : Int))
    omega
  · have h1 : (usesL l).count p = 0 := by
      rw [List.count_eq_zero]
      intro hm
      unfold usesL at hm
      obtain ⟨n, hn, hpn⟩ := List.mem_flatMap.1 hm
      obtain ⟨i, hi, rfl⟩ := List.mem_iff_getElem.1 hn
      obtain ⟨a, rfl, ha, _⟩ := use_le h (List.getElem?_eq_getElem hi) hpn
      exact hp ⟨a, by omega, rfl⟩
    have h2 : ((List.range (l.length - 1)).map fun j : Nat => (j : Int)).count p = 0 := by
      rw [List.count_eq_zero]
      intro hm
      obtain ⟨j, hj, rfl⟩ := List.mem_map.1 hm
      exact hp ⟨j, List.mem_range.1 hj, rfl⟩
    rw [h1, h2]
theorem sum_two {α : Type} (l : List α) (f g : α → Nat) (c : α → Nat) (h : ∀ x ∈ l, c x = f x + g x) : (l.map c).sum = (l.map f).sum + (l.map g).sum := by
  induction l with
  | nil => rfl
  | cons x l ih =>
    simp only [List.map_cons, List.sum_cons]
    rw [ih (fun y hy => h y (List.mem_cons_of_mem _ hy)), h x (List.mem_cons_self ..)]
    omega
theorem sum_flat {α β : Type} (l : List α) (f : α → List β) (g : β → Nat) : ((l.flatMap f).map g).sum = (l.map fun x => ((f x).map g).sum).sum := by
  induction l with
  | nil => rfl
  | cons x l ih => simp [List.flatMap_cons, ih]
theorem list_range {α : Type} (l : List α) (d : α) : l = (List.range l.length).map fun i => l.getD i d := by
  refine List.ext_getElem? fun i => ?_
  by_cases h : i < l.length
  · simp [h]
  · simp [Nat.le_of_not_lt h]
/-- Each node of an expression is one of its tree's, once. -/
theorem wt_all (ow : Option Wd → Nat) {l : List Nd} (h : formB l = true) {t : RE} (ht : Sh l (l.length - 1) t) : wt ow t = (l.map (owN ow)).sum := by
  have hpos := form_pos h
  have e1 : ((List.range l.length).map fun i => wt ow (trI l i)).sum = ((List.range l.length).map fun i => owN ow (nd l i)).sum + ((List.range l.length).map fun i => ((partsN (nd l i)).map fun p => wt ow (trI l p.toNat)).sum).sum :=
    sum_two _ _ _ _ fun i hi => by
      have hi := List.mem_range.1 hi
      obtain ⟨t', ht'⟩ := sh_of h i hi
      have := wt_at ow (List.getElem?_eq_getElem hi) ht'
      rw [this, nd_at (List.getElem?_eq_getElem hi)]
  have e2 : l.map (owN ow) = (List.range l.length).map fun i => owN ow (nd l i) := by
    conv => lhs; rw [list_range l nd0]
    rw [List.map_map]; rfl
  have e3 : usesL l = (List.range l.length).flatMap fun i => partsN (nd l i) := by
    unfold usesL
    conv => lhs; rw [list_range l nd0]
    rw [List.flatMap_map]; rfl
  have e4 := perm_sum ((uses_perm h).map fun p => wt ow (trI l p.toNat))
  rw [e3, sum_flat] at e4
  have e5 : (List.range l.length).map (fun i => wt ow (trI l i)) = (List.range (l.length - 1)).map (fun i => wt ow (trI l i)) ++ [wt ow (trI l (l.length - 1))] := by
    conv => lhs; rw [show l.length = l.length - 1 + 1 by omega, List.range_succ, List.map_append]
    rfl
  rw [e5, List.sum_append, e4, List.map_map] at e1
  have e6 : (List.map ((fun p : Int => wt ow (trI l p.toNat)) ∘ fun j : Nat => (j : Int)) (List.range (l.length - 1))) = (List.range (l.length - 1)).map (fun i => wt ow (trI l i)) := by
    refine List.map_congr_left fun i _ => ?_
    simp
  rw [e6, trI_eq ht] at e1
  rw [e2]
  simp only [List.sum_cons, List.sum_nil] at e1
  omega
theorem sz_wt (t : RE) : sz t = wt (fun _ => 1) t := by
  induction t with
  | none | empty | sym => rfl
  | cat s t i1 i2 | alt s t i1 i2 => rw [sz, wt, i1, i2]
  | star s i1 => rw [sz, wt, i1]
theorem sz_all {l : List Nd} (h : formB l = true) {t : RE} (ht : Sh l (l.length - 1) t) : sz t = l.length := by
  rw [sz_wt, wt_all _ h ht]
  have : owN (fun _ => 1) = fun _ => 1 := by funext n; unfold owN; split <;> rfl
  rw [this]
  clear h ht this
  induction l with
  | nil => rfl
  | cons x l ih => simp only [List.map_cons, List.sum_cons, List.length_cons, ih]; omega
/-- The words that stand in nodes. -/
def symsL (l : List Nd) : List Wd := l.filterMap fun n => if n.op = 2 then some n.sym else none
theorem syms_count (s : Wd) (l : List Nd) : (symsL l).count s = (l.map (owN fun o => if o = some s then 1 else 0)).sum := by
  unfold symsL
  induction l with
  | nil => rfl
  | cons n l ih =>
    rw [List.filterMap_cons, List.map_cons, List.sum_cons, ← ih]
    by_cases h : n.op = 2
    · simp only [if_pos h]
      rw [List.count_cons]
      unfold owN
      rw [if_pos h]
      by_cases e : n.sym = s
      · simp [e]; omega
      · simp [e]
    · simp only [if_neg h]
      unfold owN
      rw [if_neg h]
      simp
/-- Two expressions of one tree have the same words. -/
theorem syms_perm {l m : List Nd} (h : formB l = true) (k : formB m = true) {t : RE} (ht : Sh l (l.length - 1) t) (hm : Sh m (m.length - 1) t) : (symsL l).Perm (symsL m) := by
  rw [List.perm_iff_count]
  intro s
  rw [syms_count, syms_count, ← wt_all _ h ht, ← wt_all _ k hm]
end Go.Proofs.Ytnaimmhdpjggmaa.U
