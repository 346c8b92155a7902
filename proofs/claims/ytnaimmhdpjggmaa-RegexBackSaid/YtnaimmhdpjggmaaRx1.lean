/- How an expression goes from word to word, as plain lists, and that this is what its tree matches. No dump is read here. -/
import Derived.Test.YtnaimmhdpjggmaaRx0
namespace Go.Proofs.Ytnaimmhdpjggmaa.U

def tl (told : List Bool) (p : Int) : Bool := told.getD p.toNat false
def nd (l : List Nd) (i : Nat) : Nd := l.getD i nd0
/-- What is told of each node, by what was told of those ahead. -/
def upA {α : Type} (tell : Nat → List α → α) : Nat → List α
  | 0 => []
  | k + 1 => upA tell k ++ [tell k (upA tell k)]
def emT (l : List Nd) (i : Nat) (told : List Bool) : Bool :=
  if (nd l i).op = 1 ∨ (nd l i).op = 5 then true else if (nd l i).op = 3 then tl told (nd l i).a && tl told (nd l i).b else if (nd l i).op = 4 then tl told (nd l i).a || tl told (nd l i).b else false
def deadT (l : List Nd) (i : Nat) (told : List Bool) : Bool :=
  if (nd l i).op = 0 then true else if (nd l i).op = 3 then tl told (nd l i).a || tl told (nd l i).b else if (nd l i).op = 4 then tl told (nd l i).a && tl told (nd l i).b else false
def endT (l : List Nd) (em : List Bool) (here : Nat → Bool) (i : Nat) (told : List Bool) : Bool :=
  if (nd l i).op = 2 then here i else if (nd l i).op = 3 then tl told (nd l i).b || (tl told (nd l i).a && tl em (nd l i).b) else if (nd l i).op = 4 then tl told (nd l i).a || tl told (nd l i).b else if (nd l i).op = 5 then tl told (nd l i).a else false
/-- What is told of each node by the one whose part it is. -/
def setP (D : List Bool) (n : Nd) (x : Bool × Bool) : List Bool :=
  if n.op = 3 ∨ n.op = 4 then (D.set n.a.toNat x.1).set n.b.toNat x.2 else if n.op = 5 then D.set n.a.toNat x.1 else D
def downA (l : List Nd) (last : Bool) (tell : Nat → Bool → Bool × Bool) : Nat → List Bool
  | 0 => (List.replicate l.length false).set (l.length - 1) last
  | k + 1 => setP (downA l last tell k) (nd l (l.length - 1 - k)) (tell (l.length - 1 - k) ((downA l last tell k).getD (l.length - 1 - k) false))
def liveT (l : List Nd) (dead : List Bool) (i : Nat) (told : Bool) : Bool × Bool :=
  if (nd l i).op = 3 then (told && !tl dead (nd l i).b, told && !tl dead (nd l i).a) else (told, told)
def nextT (l : List Nd) (em ends : List Bool) (i : Nat) (told : Bool) : Bool × Bool :=
  if (nd l i).op = 3 then (told, tl ends (nd l i).a || (told && tl em (nd l i).a)) else if (nd l i).op = 5 then (told || tl ends (nd l i).a, false) else (told, told)
def deadL (l : List Nd) : List Bool := upA (deadT l) l.length
def livesL (l : List Nd) : List Bool := downA l true (liveT l (deadL l)) l.length
def livN (D : List Bool) (i : Nat) (n : Nd) : Nd := if n.op = 2 ∧ D.getD i false = false then nd0 else n
def livL (l : List Nd) : List Nd := l.mapIdx (livN (livesL l))
def emL (l : List Nd) : List Bool := upA (emT l) l.length
def endL (l : List Nd) (em : List Bool) (here : Nat → Bool) : List Bool := upA (endT l em here) l.length
def nextD (l : List Nd) (em : List Bool) (beg : Bool) (here : Nat → Bool) : List Bool := downA l beg (nextT l em (endL l em here)) l.length
def nextN (l : List Nd) (i : Nat) (x : Bool) : Bool := x && decide ((nd l i).op = 2)
def nextL (l : List Nd) (em : List Bool) (beg : Bool) (here : Nat → Bool) : List Bool := (nextD l em beg here).mapIdx (nextN l)
def endsB (l : List Nd) (em : List Bool) (beg : Bool) (here : Nat → Bool) : Bool := (endL l em here).getD (l.length - 1) false || (beg && em.getD (l.length - 1) false)
def hereW (l : List Nd) (may : List Bool) (x : Wd) (i : Nat) : Bool := may.getD i false && decide ((nd l i).sym = x)
def nowh (_ : Nat) : Bool := false
def goL (l : List Nd) (em : List Bool) (may : List Bool) (e : Bool) : List Wd → Bool
  | [] => e
  | x :: w => goL l em (nextL l em false (hereW l may x)) (endsB l em false (hereW l may x)) w
def matchG (l : List Nd) (w : List Wd) : Bool := goL (livL l) (emL (livL l)) (nextL (livL l) (emL (livL l)) true nowh) (endsB (livL l) (emL (livL l)) true nowh) w
def nullG (l : List Nd) : Bool := endsB (livL l) (emL (livL l)) true nowh

theorem upA_len {α : Type} (tell : Nat → List α → α) (n : Nat) : (upA tell n).length = n := by
  induction n with
  | zero => rfl
  | succ k ih => rw [upA, List.length_append, ih]; rfl
theorem upA_take {α : Type} (tell : Nat → List α → α) (n i : Nat) (h : i ≤ n) : (upA tell n).take i = upA tell i := by
  induction n with
  | zero => obtain rfl : i = 0 := by omega
            rfl
  | succ k ih =>
    by_cases e : i = k + 1
    · subst e; exact List.take_of_length_le (by rw [upA_len]; omega)
    · rw [upA, List.take_append_of_le_length (by rw [upA_len]; omega)]
      exact ih (by omega)
theorem upA_at {α : Type} (tell : Nat → List α → α) {n i : Nat} (h : i < n) : (upA tell n)[i]? = some (tell i (upA tell i)) := by
  have h1 := upA_take tell n (i + 1) h
  have h2 : ((upA tell n).take (i + 1))[i]? = (upA tell n)[i]? := by rw [List.getElem?_take_of_lt (by omega)]
  rw [← h2, h1, upA, List.getElem?_append_right (by rw [upA_len]; exact Nat.le_refl _), upA_len]
  simp
theorem upA_low {tell : Nat → List Bool → Bool} {n i j : Nat} (h : i ≤ n) (hj : j < i) : tl (upA tell i) (j : Nat) = tl (upA tell n) (j : Nat) := by
  unfold tl
  rw [← upA_take tell n i h, List.getD_eq_getElem?_getD, List.getD_eq_getElem?_getD, List.getElem?_take_of_lt (by simpa using hj)]
theorem upA_tl {tell : Nat → List Bool → Bool} {n i : Nat} (h : i < n) : tl (upA tell n) (i : Nat) = tell i (upA tell i) := by
  unfold tl
  rw [List.getD_eq_getElem?_getD, Int.toNat_natCast, upA_at tell h]
  rfl
theorem nd_at {l : List Nd} {i : Nat} {n : Nd} (h : l[i]? = some n) : nd l i = n := by unfold nd; rw [List.getD_eq_getElem?_getD, h]; rfl

theorem em_iff {l : List Nd} {i : Nat} {t : RE} (h : Sh l i t) : tl (emL l) (i : Nat) = true ↔ Lg t [] := by
  have hlt := h.lt
  unfold emL
  rw [upA_tl hlt]
  induction h with
  | none h => rw [emT, nd_at h, Lg.none_iff]; simp
  | empty h => rw [emT, nd_at h, Lg.empty_iff]; simp
  | sym h => rw [emT, nd_at h, Lg.sym_iff]; simp
  | @cat i a b s t h ha hb hs ht i1 i2 =>
    rw [emT, nd_at h]
    simp only [Int.reduceEq, or_self, if_false, if_true, Bool.and_eq_true]
    have j1 : emT l a (upA (emT l) a) = true ↔ Lg s [] := i1 hs.lt
    have j2 : emT l b (upA (emT l) b) = true ↔ Lg t [] := i2 ht.lt
    rw [upA_low (Nat.le_of_lt hlt) ha, upA_low (Nat.le_of_lt hlt) hb, upA_tl hs.lt, upA_tl ht.lt, j1, j2, Lg.cat_iff]
    constructor
    · rintro ⟨h1, h2⟩; exact ⟨[], [], rfl, h1, h2⟩
    · rintro ⟨u, v, e, h1, h2⟩
      obtain ⟨rfl, rfl⟩ := List.append_eq_nil_iff.1 e.symm
      exact ⟨h1, h2⟩
  | @alt i a b s t h ha hb hs ht i1 i2 =>
    rw [emT, nd_at h]
    simp only [Int.reduceEq, or_self, if_false, if_true, Bool.or_eq_true]
    have j1 : emT l a (upA (emT l) a) = true ↔ Lg s [] := i1 hs.lt
    have j2 : emT l b (upA (emT l) b) = true ↔ Lg t [] := i2 ht.lt
    rw [upA_low (Nat.le_of_lt hlt) ha, upA_low (Nat.le_of_lt hlt) hb, upA_tl hs.lt, upA_tl ht.lt, j1, j2, Lg.alt_iff]
  | star h =>
    rw [emT, nd_at h]
    simp only [Int.reduceEq, or_true, if_true, true_iff]
    exact .nil
theorem dead_iff {l : List Nd} {i : Nat} {t : RE} (h : Sh l i t) : tl (deadL l) (i : Nat) = true ↔ ∀ w, ¬ Lg t w := by
  have hlt := h.lt
  unfold deadL
  rw [upA_tl hlt]
  induction h with
  | none h => rw [deadT, nd_at h]; simp [Lg.none_iff]
  | empty h =>
    rw [deadT, nd_at h]
    simp only [Int.reduceEq, if_false, Bool.false_eq_true, false_iff]
    exact fun k => k [] .empty
  | sym h =>
    rw [deadT, nd_at h]
    simp only [Int.reduceEq, if_false, Bool.false_eq_true, false_iff]
    exact fun k => k _ (.sym _)
  | @cat i a b s t h ha hb hs ht i1 i2 =>
    rw [deadT, nd_at h]
    simp only [Int.reduceEq, if_false, if_true, Bool.or_eq_true]
    have j1 : deadT l a (upA (deadT l) a) = true ↔ ∀ w, ¬ Lg s w := i1 hs.lt
    have j2 : deadT l b (upA (deadT l) b) = true ↔ ∀ w, ¬ Lg t w := i2 ht.lt
    rw [upA_low (Nat.le_of_lt hlt) ha, upA_low (Nat.le_of_lt hlt) hb, upA_tl hs.lt, upA_tl ht.lt, j1, j2]
    constructor
    · rintro h w hw
      obtain ⟨u, v, rfl, h1, h2⟩ := Lg.cat_iff.1 hw
      rcases h with h | h
      · exact h _ h1
      · exact h _ h2
    · intro h
      by_cases h1 : ∀ w, ¬ Lg s w
      · exact .inl h1
      · refine .inr fun w hw => h1 fun u hu => h _ (Lg.cat hu hw)
  | @alt i a b s t h ha hb hs ht i1 i2 =>
    rw [deadT, nd_at h]
    simp only [Int.reduceEq, if_false, if_true, Bool.and_eq_true]
    have j1 : deadT l a (upA (deadT l) a) = true ↔ ∀ w, ¬ Lg s w := i1 hs.lt
    have j2 : deadT l b (upA (deadT l) b) = true ↔ ∀ w, ¬ Lg t w := i2 ht.lt
    rw [upA_low (Nat.le_of_lt hlt) ha, upA_low (Nat.le_of_lt hlt) hb, upA_tl hs.lt, upA_tl ht.lt, j1, j2]
    constructor
    · rintro ⟨h1, h2⟩ w hw
      rcases Lg.alt_iff.1 hw with h | h
      · exact h1 _ h
      · exact h2 _ h
    · exact fun h => ⟨fun w hw => h w (.alt1 hw), fun w hw => h w (.alt2 hw)⟩
  | star h =>
    rw [deadT, nd_at h]
    simp only [Int.reduceEq, if_false, Bool.false_eq_true, false_iff]
    exact fun k => k [] .nil

/-- What may stand behind words the last one of which was at one of the places H. -/
def Rm (l : List Nd) (H : Nat → Bool) : Nat → RE → List Wd → Prop
  | _, .none, _ => False
  | _, .empty, _ => False
  | i, .sym _, w => H i = true ∧ w = []
  | i, .cat s t, w => (∃ u v, w = u ++ v ∧ Rm l H (nd l i).a.toNat s u ∧ Lg t v) ∨ Rm l H (nd l i).b.toNat t w
  | i, .alt s t, w => Rm l H (nd l i).a.toNat s w ∨ Rm l H (nd l i).b.toNat t w
  | i, .star s, w => ∃ u v, w = u ++ v ∧ Rm l H (nd l i).a.toNat s u ∧ Lg (.star s) v
theorem end_iff {l : List Nd} {em : List Bool} {H : Nat → Bool} (hem : ∀ i t, Sh l i t → (tl em (i : Nat) = true ↔ Lg t [])) {i : Nat} {t : RE} (h : Sh l i t) : tl (endL l em H) (i : Nat) = true ↔ Rm l H i t [] := by
  have hlt := h.lt
  unfold endL
  rw [upA_tl hlt]
  induction h with
  | none h => rw [endT, Rm, nd_at h]; simp
  | empty h => rw [endT, Rm, nd_at h]; simp
  | sym h => rw [endT, Rm, nd_at h]; simp
  | @cat i a b s t h ha hb hs ht i1 i2 =>
    rw [endT, Rm, nd_at h]
    simp only [Int.reduceEq, if_false, if_true, Bool.or_eq_true, Bool.and_eq_true, Int.toNat_natCast]
    have j1 : endT l em H a (upA (endT l em H) a) = true ↔ Rm l H a s [] := i1 hs.lt
    have j2 : endT l em H b (upA (endT l em H) b) = true ↔ Rm l H b t [] := i2 ht.lt
    rw [upA_low (Nat.le_of_lt hlt) ha, upA_low (Nat.le_of_lt hlt) hb, upA_tl hs.lt, upA_tl ht.lt, j1, j2, hem _ _ ht]
    constructor
    · rintro (h | ⟨h, k⟩)
      · exact .inr h
      · exact .inl ⟨[], [], rfl, h, k⟩
    · rintro (⟨u, v, e, h1, h2⟩ | h)
      · obtain ⟨rfl, rfl⟩ := List.append_eq_nil_iff.1 e.symm
        exact .inr ⟨h1, h2⟩
      · exact .inl h
  | @alt i a b s t h ha hb hs ht i1 i2 =>
    rw [endT, Rm, nd_at h]
    simp only [Int.reduceEq, if_false, if_true, Bool.or_eq_true, Int.toNat_natCast]
    have j1 : endT l em H a (upA (endT l em H) a) = true ↔ Rm l H a s [] := i1 hs.lt
    have j2 : endT l em H b (upA (endT l em H) b) = true ↔ Rm l H b t [] := i2 ht.lt
    rw [upA_low (Nat.le_of_lt hlt) ha, upA_low (Nat.le_of_lt hlt) hb, upA_tl hs.lt, upA_tl ht.lt, j1, j2]
  | @star i a s h ha hs i1 =>
    rw [endT, Rm, nd_at h]
    simp only [Int.reduceEq, if_false, if_true, Int.toNat_natCast]
    have j1 : endT l em H a (upA (endT l em H) a) = true ↔ Rm l H a s [] := i1 hs.lt
    rw [upA_low (Nat.le_of_lt hlt) ha, upA_tl hs.lt, j1]
    constructor
    · exact fun h => ⟨[], [], rfl, h, .nil⟩
    · rintro ⟨u, v, e, h1, h2⟩
      obtain ⟨rfl, rfl⟩ := List.append_eq_nil_iff.1 e.symm
      exact h1

/-- That each part is told what the one tells whose part it is. -/
structure DownS (l : List Nd) (tell : Nat → Bool → Bool × Bool) (D : List Bool) : Prop where
  two : ∀ i n, l[i]? = some n → (n.op = 3 ∨ n.op = 4) → tl D n.a = (tell i (D.getD i false)).1 ∧ tl D n.b = (tell i (D.getD i false)).2
  one : ∀ i n, l[i]? = some n → n.op = 5 → tl D n.a = (tell i (D.getD i false)).1
theorem count_at {l : List Nd} {i : Nat} {n : Nd} (h : l[i]? = some n) (p : Int) : (partsN n).count p ≤ (usesL l).count p := by
  obtain ⟨hi, he⟩ := List.getElem?_eq_some_iff.1 h
  have e : l = l.take i ++ n :: l.drop (i + 1) := by rw [← he, ← List.drop_eq_getElem_cons hi, List.take_append_drop]
  unfold usesL
  rw [e, List.flatMap_append, List.flatMap_cons, List.count_append, List.count_append]
  omega
theorem count_two {l : List Nd} {i j : Nat} {n m : Nd} (hij : i < j) (h : l[i]? = some n) (k : l[j]? = some m) (p : Int) : (partsN n).count p + (partsN m).count p ≤ (usesL l).count p := by
  obtain ⟨hj, he⟩ := List.getElem?_eq_some_iff.1 k
  have e : l = l.take j ++ m :: l.drop (j + 1) := by rw [← he, ← List.drop_eq_getElem_cons hj, List.take_append_drop]
  have h1 : (partsN n).count p ≤ (usesL (l.take j)).count p := count_at (i := i) (by rw [List.getElem?_take_of_lt hij]; exact h) p
  unfold usesL at h1 ⊢
  rw [e, List.flatMap_append, List.flatMap_cons, List.count_append, List.count_append]
  omega
theorem use_le {l : List Nd} (h : formB l = true) {i : Nat} {n : Nd} (hn : l[i]? = some n) {p : Int} (hp : p ∈ partsN n) : ∃ a : Nat, p = a ∧ a < i ∧ (usesL l).count p = 1 := by
  obtain ⟨_, h2⟩ := okAt_iff.1 (form_at h hn)
  obtain ⟨a, rfl, ha⟩ := nat_of (h2 p hp)
  have hi := (List.getElem?_eq_some_iff.1 hn).1
  exact ⟨a, rfl, ha, form_use h (by omega)⟩
/-- No two nodes have a part in common. -/
theorem part_apart {l : List Nd} (h : formB l = true) {i j : Nat} {n m : Nd} (hij : i ≠ j) (hn : l[i]? = some n) (hm : l[j]? = some m) {p : Int} (hp : p ∈ partsN n) (hq : p ∈ partsN m) : False := by
  obtain ⟨_, _, _, hc⟩ := use_le h hn hp
  have c1 := List.count_pos_iff.2 hp
  have c2 := List.count_pos_iff.2 hq
  rcases Nat.lt_or_ge i j with h1 | h1
  · have := count_two h1 hn hm p; omega
  · have := count_two (show j < i by omega) hm hn p; omega
theorem two_apart {l : List Nd} (h : formB l = true) {i : Nat} {n : Nd} (hn : l[i]? = some n) (ho : n.op = 3 ∨ n.op = 4) : n.a ≠ n.b := by
  intro e
  obtain ⟨_, _, _, hc⟩ := use_le h hn (p := n.a) (by unfold partsN; rw [if_pos ho]; simp)
  have := count_at hn n.a
  unfold partsN at this
  rw [if_pos ho, ← e] at this
  simp at this
  omega
theorem downA_len (l : List Nd) (last : Bool) (tell : Nat → Bool → Bool × Bool) (k : Nat) : (downA l last tell k).length = l.length := by
  induction k with
  | zero => simp [downA]
  | succ k ih =>
    rw [downA]
    unfold setP
    split
    · simp [ih]
    · split
      · simp [ih]
      · exact ih
theorem setP_other {D : List Bool} {n : Nd} {x : Bool × Bool} {j : Nat} (h : ∀ p ∈ partsN n, p.toNat ≠ j) : (setP D n x).getD j false = D.getD j false := by
  unfold setP
  unfold partsN at h
  split
  · rename_i ho
    rw [if_pos ho] at h
    have h1 := h n.a (by simp)
    have h2 := h n.b (by simp)
    simp only [List.getD_eq_getElem?_getD]
    rw [List.getElem?_set_ne h2, List.getElem?_set_ne h1]
  · rename_i ho
    split
    · rename_i hs
      rw [if_neg ho, if_pos hs] at h
      simp only [List.getD_eq_getElem?_getD]
      rw [List.getElem?_set_ne (h n.a (by simp))]
    · rfl
theorem set_at {D : List Bool} {j : Nat} {x : Bool} (h : j < D.length) : (D.set j x).getD j false = x := by
  simp [List.getD_eq_getElem?_getD, h]
theorem down_inv {l : List Nd} (h : formB l = true) (last : Bool) (tell : Nat → Bool → Bool × Bool) (k : Nat) (hk : k ≤ l.length) :
    (downA l last tell k).getD (l.length - 1) false = last ∧ ∀ i n, l.length - k ≤ i → l[i]? = some n →
      ((n.op = 3 ∨ n.op = 4) → tl (downA l last tell k) n.a = (tell i ((downA l last tell k).getD i false)).1 ∧ tl (downA l last tell k) n.b = (tell i ((downA l last tell k).getD i false)).2) ∧
      (n.op = 5 → tl (downA l last tell k) n.a = (tell i ((downA l last tell k).getD i false)).1) := by
  have hpos := form_pos h
  induction k with
  | zero =>
    refine ⟨by rw [downA]; exact set_at (by rw [List.length_replicate]; omega), fun i n hi hn => ?_⟩
    have := (List.getElem?_eq_some_iff.1 hn).1
    omega
  | succ k ih =>
    obtain ⟨h0, h1⟩ := ih (by omega)
    obtain ⟨m, hm⟩ : ∃ m, l[l.length - 1 - k]? = some m := ⟨_, List.getElem?_eq_getElem (by omega)⟩
    have hL := downA_len l last tell k
    rw [downA, nd_at hm]
    generalize hD : downA l last tell k = D at h0 h1 hL
    generalize hx : tell (l.length - 1 - k) (D.getD (l.length - 1 - k) false) = x
    have hlow : ∀ j, l.length - 1 - k ≤ j → (setP D m x).getD j false = D.getD j false := fun j hj => setP_other fun p hp => by
      obtain ⟨a, rfl, ha, _⟩ := use_le h hm hp
      simp only [Int.toNat_natCast]; omega
    refine ⟨by rw [hlow _ (by omega)]; exact h0, fun i n hi hn => ?_⟩
    have hin := (List.getElem?_eq_some_iff.1 hn).1
    by_cases e : i = l.length - 1 - k
    · subst e
      rw [hm] at hn
      obtain rfl := Option.some.inj hn
      rw [hlow _ (Nat.le_refl _), hx]
      constructor
      · intro ho
        obtain ⟨a, ea, ha, _⟩ := use_le h hm (p := m.a) (by unfold partsN; rw [if_pos ho]; simp)
        obtain ⟨b, eb, hb, _⟩ := use_le h hm (p := m.b) (by unfold partsN; rw [if_pos ho]; simp)
        have hab := two_apart h hm ho
        unfold tl setP
        rw [if_pos ho, ea, eb]
        simp only [Int.toNat_natCast]
        have : a ≠ b := by rintro rfl; exact hab (ea.trans eb.symm)
        constructor
        · simp only [List.getD_eq_getElem?_getD]
          rw [List.getElem?_set_ne (fun e => this e.symm)]
          simp [show a < D.length by omega]
        · exact set_at (by simp; omega)
      · intro ho
        have hn34 : ¬ (m.op = 3 ∨ m.op = 4) := by omega
        obtain ⟨a, ea, ha, _⟩ := use_le h hm (p := m.a) (by unfold partsN; rw [if_neg hn34, if_pos ho]; simp)
        unfold tl setP
        rw [if_neg hn34, if_pos ho, ea]
        simp only [Int.toNat_natCast]
        exact set_at (by omega)
    · have hgt : l.length - k ≤ i := by omega
      obtain ⟨g1, g2⟩ := h1 i n hgt hn
      rw [hlow i (by omega)]
      have keep : ∀ p ∈ partsN n, tl (setP D m x) p = tl D p := fun p hp => setP_other fun q hq e => by
        obtain ⟨a, rfl, ha, _⟩ := use_le h hn hp
        obtain ⟨b, rfl, hb, _⟩ := use_le h hm hq
        simp only [Int.toNat_natCast] at e
        subst e
        exact part_apart h e (by assumption) hm hp hq
      constructor
      · intro ho
        rw [keep n.a (by unfold partsN; rw [if_pos ho]; simp), keep n.b (by unfold partsN; rw [if_pos ho]; simp)]
        exact g1 ho
      · intro ho
        rw [keep n.a (by unfold partsN; rw [if_neg (by omega), if_pos ho]; simp)]
        exact g2 ho
theorem down_spec {l : List Nd} (h : formB l = true) (last : Bool) (tell : Nat → Bool → Bool × Bool) : DownS l tell (downA l last tell l.length) ∧ (downA l last tell l.length).getD (l.length - 1) false = last := by
  obtain ⟨h0, h1⟩ := down_inv h last tell l.length (Nat.le_refl _)
  exact ⟨⟨fun i n hn ho => (h1 i n (by omega) hn).1 ho, fun i n hn ho => (h1 i n (by omega) hn).2 ho⟩, h0⟩
end Go.Proofs.Ytnaimmhdpjggmaa.U
