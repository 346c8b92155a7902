/- That an expression matches, going from word to word, what its tree matches. No dump is read here. -/
import Derived.Test.YtnaimmhdpjggmaaRx1
namespace Go.Proofs.Ytnaimmhdpjggmaa.U

theorem getD_tl (D : List Bool) (a : Nat) : tl D (a : Int) = D.getD a false := by unfold tl; rw [Int.toNat_natCast]
/-- One word further on. -/
theorem glu {l : List Nd} {H H' : Nat → Bool} {em D : List Bool} (hem : ∀ i t, Sh l i t → (tl em (i : Nat) = true ↔ Lg t [])) (hD : DownS l (nextT l em (endL l em H)) D) (x : Wd)
    (hH : ∀ i s, l[i]? = some ⟨2, s, 0, 0⟩ → (H' i = true ↔ (D.getD i false = true ∧ s = x))) {i : Nat} {t : RE} (h : Sh l i t) : ∀ v, ((D.getD i false = true ∧ Lg t (x :: v)) ∨ Rm l H i t (x :: v)) ↔ Rm l H' i t v := by
  induction h with
  | none h => intro v; rw [Rm, Rm, Lg.none_iff]; simp
  | empty h => intro v; rw [Rm, Rm, Lg.empty_iff]; simp
  | @sym i s h =>
    intro v
    rw [Rm, Rm, hH i s h, Lg.sym_iff]
    simp only [List.cons.injEq, reduceCtorEq, and_false, or_false]
    constructor
    · rintro ⟨h1, rfl, h2⟩; exact ⟨⟨h1, rfl⟩, h2⟩
    · rintro ⟨⟨h1, rfl⟩, h2⟩; exact ⟨h1, rfl, h2⟩
  | @cat i a b s t h ha hb hs ht i1 i2 =>
    intro v
    obtain ⟨da, db⟩ := hD.two i _ h (.inl rfl)
    rw [nextT, nd_at h] at da db
    simp only [if_true] at da db
    rw [getD_tl] at da db
    rw [Rm, Rm, nd_at h]
    simp only [Int.toNat_natCast]
    have j2 := i2 v
    rw [db] at j2
    rw [← j2]
    have he := end_iff (H := H) hem hs
    have hm := hem _ _ hs
    simp only [Bool.or_eq_true, Bool.and_eq_true]
    rw [he, hm, Lg.cat_iff]
    constructor
    · rintro (⟨h1, u, y, e, h2, h3⟩ | ⟨u, y, e, h2, h3⟩ | h1)
      · cases u with
        | nil => exact .inr (.inl ⟨.inr ⟨h1, h2⟩, by rw [show x :: v = y from by simpa using e]; exact h3⟩)
        | cons z u =>
          simp only [List.cons_append, List.cons.injEq] at e
          obtain ⟨rfl, rfl⟩ := e
          exact .inl ⟨u, y, rfl, (i1 u).1 (.inl ⟨by rw [da]; exact h1, h2⟩), h3⟩
      · cases u with
        | nil => exact .inr (.inl ⟨.inl h2, by rw [show x :: v = y from by simpa using e]; exact h3⟩)
        | cons z u =>
          simp only [List.cons_append, List.cons.injEq] at e
          obtain ⟨rfl, rfl⟩ := e
          exact .inl ⟨u, y, rfl, (i1 u).1 (.inr h2), h3⟩
      · exact .inr (.inr h1)
    · rintro (⟨u, y, rfl, h2, h3⟩ | ⟨h1 | ⟨h1, h2⟩, h3⟩ | h1)
      · rcases (i1 u).2 h2 with ⟨k1, k2⟩ | k
        · exact .inl ⟨by rw [← da]; exact k1, x :: u, y, rfl, k2, h3⟩
        · exact .inr (.inl ⟨x :: u, y, rfl, k, h3⟩)
      · exact .inr (.inl ⟨[], x :: v, rfl, h1, h3⟩)
      · exact .inl ⟨h1, [], x :: v, rfl, h2, h3⟩
      · exact .inr (.inr h1)
  | @alt i a b s t h ha hb hs ht i1 i2 =>
    intro v
    obtain ⟨da, db⟩ := hD.two i _ h (.inr rfl)
    rw [nextT, nd_at h] at da db
    simp only [Int.reduceEq, if_false] at da db
    rw [getD_tl] at da db
    rw [Rm, Rm, nd_at h]
    simp only [Int.toNat_natCast]
    rw [← i1 v, ← i2 v, da, db, Lg.alt_iff]
    constructor
    · rintro (⟨h1, h2 | h2⟩ | h1 | h1)
      · exact .inl (.inl ⟨h1, h2⟩)
      · exact .inr (.inl ⟨h1, h2⟩)
      · exact .inl (.inr h1)
      · exact .inr (.inr h1)
    · rintro ((⟨h1, h2⟩ | h1) | ⟨h1, h2⟩ | h1)
      · exact .inl ⟨h1, .inl h2⟩
      · exact .inr (.inl h1)
      · exact .inl ⟨h1, .inr h2⟩
      · exact .inr (.inr h1)
  | @star i a s h ha hs i1 =>
    intro v
    have da := hD.one i _ h rfl
    rw [nextT, nd_at h] at da
    simp only [Int.reduceEq, if_false, if_true] at da
    rw [getD_tl] at da
    have he := end_iff (H := H) hem hs
    rw [Rm, Rm, nd_at h]
    simp only [Int.toNat_natCast]
    constructor
    · rintro (⟨h1, h2⟩ | ⟨u, y, e, h2, h3⟩)
      · obtain ⟨u, y, rfl, k1, k2⟩ := Lg.star_cons.1 h2
        exact ⟨u, y, rfl, (i1 u).1 (.inl ⟨by rw [da, h1]; rfl, k1⟩), k2⟩
      · cases u with
        | nil =>
          obtain rfl : x :: v = y := by simpa using e
          obtain ⟨u, z, rfl, k1, k2⟩ := Lg.star_cons.1 h3
          exact ⟨u, z, rfl, (i1 u).1 (.inl ⟨by rw [da, he.2 h2]; simp, k1⟩), k2⟩
        | cons z u =>
          simp only [List.cons_append, List.cons.injEq] at e
          obtain ⟨rfl, rfl⟩ := e
          exact ⟨u, y, rfl, (i1 u).1 (.inr h2), h3⟩
    · rintro ⟨u, y, rfl, h2, h3⟩
      rcases (i1 u).2 h2 with ⟨k1, k2⟩ | k
      · rw [da, Bool.or_eq_true] at k1
        rcases k1 with k1 | k1
        · exact .inl ⟨k1, .more k2 h3⟩
        · exact .inr ⟨[], x :: (u ++ y), rfl, he.1 k1, .more k2 h3⟩
      · exact .inr ⟨x :: u, y, rfl, k, h3⟩

/-- The tree whose words that stand in no row are none. -/
def livT (l : List Nd) (D : List Bool) : Nat → RE → RE
  | _, .none => .none
  | _, .empty => .empty
  | i, .sym s => if D.getD i false = false then .none else .sym s
  | i, .cat s t => .cat (livT l D (nd l i).a.toNat s) (livT l D (nd l i).b.toNat t)
  | i, .alt s t => .alt (livT l D (nd l i).a.toNat s) (livT l D (nd l i).b.toNat t)
  | i, .star s => .star (livT l D (nd l i).a.toNat s)
theorem liv_get (l : List Nd) (i : Nat) : (livL l)[i]? = (l[i]?).map (livN (livesL l) i) := by unfold livL; rw [List.getElem?_mapIdx]
theorem liv_len (l : List Nd) : (livL l).length = l.length := by unfold livL; rw [List.length_mapIdx]
theorem liv_same {l : List Nd} {i : Nat} {n : Nd} (h : l[i]? = some n) (ho : n.op ≠ 2) : (livL l)[i]? = some n := by
  rw [liv_get, h, Option.map_some]
  unfold livN
  rw [if_neg (fun e => ho e.1)]
theorem livN_parts {D : List Bool} {i : Nat} {n : Nd} : partsN (livN D i n) = partsN n := by
  unfold livN
  split
  · rename_i h
    unfold partsN
    rw [h.1]
    simp [nd0]
  · rfl
theorem liv_form {l : List Nd} (h : formB l = true) : formB (livL l) = true := by
  refine form_mk (by rw [liv_len]; exact form_pos h) (fun i n hn => ?_) (fun j hj => ?_)
  · rw [liv_get] at hn
    obtain ⟨m, hm, rfl⟩ := Option.map_eq_some_iff.1 hn
    have k := form_at h hm
    rw [okAt_iff] at k ⊢
    rw [livN_parts]
    refine ⟨?_, k.2⟩
    unfold livN
    split
    · decide
    · exact k.1
  · rw [liv_len] at hj
    have e : usesL (livL l) = usesL l := by
      unfold usesL livL
      rw [List.flatMap_def, List.flatMap_def]
      congr 1
      refine List.ext_getElem? fun i => ?_
      rw [List.getElem?_map, List.getElem?_map, List.getElem?_mapIdx, Option.map_map]
      congr 1
      funext n
      exact livN_parts
    rw [e]
    exact form_use h hj
theorem liv_sh {l : List Nd} {i : Nat} {t : RE} (h : Sh l i t) : Sh (livL l) i (livT l (livesL l) i t) := by
  induction h with
  | none h => rw [livT]; exact .none (liv_same h (by decide))
  | empty h => rw [livT]; exact .empty (liv_same h (by decide))
  | @sym i s h =>
    rw [livT]
    have h1 := liv_get l i
    rw [h, Option.map_some, livN] at h1
    split
    · rename_i hd
      rw [if_pos ⟨rfl, hd⟩] at h1
      exact .none h1
    · rename_i hd
      rw [if_neg (fun e => hd e.2)] at h1
      exact .sym h1
  | @cat i a b s t h ha hb hs ht i1 i2 =>
    rw [livT, nd_at h]
    exact .cat (liv_same h (by simp)) ha hb i1 i2
  | @alt i a b s t h ha hb hs ht i1 i2 =>
    rw [livT, nd_at h]
    exact .alt (liv_same h (by simp)) ha hb i1 i2
  | @star i a s h ha hs i1 =>
    rw [livT, nd_at h]
    exact .star (liv_same h (by simp)) ha i1
theorem star_mono {s t : RE} (h : ∀ w, Lg s w → Lg t w) {w : List Wd} (hw : Lg (.star s) w) : Lg (.star t) w := by
  generalize hr : RE.star s = r at hw
  induction hw with
  | empty | sym | cat | alt1 | alt2 => cases hr
  | nil => exact .nil
  | more k _ _ ih => cases hr; exact .more (h _ k) (ih rfl)
theorem liv_lg {l : List Nd} (hf : formB l = true) {i : Nat} {t : RE} (h : Sh l i t) :
    ((livesL l).getD i false = true → ∀ w, Lg (livT l (livesL l) i t) w ↔ Lg t w) ∧ ∀ w, Lg (livT l (livesL l) i t) w → Lg t w := by
  have hD : DownS l (liveT l (deadL l)) (livesL l) := (down_spec hf true _).1
  induction h with
  | none h => rw [livT]; exact ⟨fun _ _ => Iff.rfl, fun _ k => k⟩
  | empty h => rw [livT]; exact ⟨fun _ _ => Iff.rfl, fun _ k => k⟩
  | @sym i s h =>
    rw [livT]
    constructor
    · intro k w; rw [k]; simp
    · intro w k
      split at k
      · exact absurd k (by rw [Lg.none_iff]; exact id)
      · exact k
  | @cat i a b s t h ha hb hs ht i1 i2 =>
    rw [livT, nd_at h]
    simp only [Int.toNat_natCast]
    have hsub : ∀ w, Lg (.cat (livT l (livesL l) a s) (livT l (livesL l) b t)) w → Lg (.cat s t) w := by
      intro w k
      obtain ⟨u, v, rfl, k1, k2⟩ := Lg.cat_iff.1 k
      exact .cat (i1.2 _ k1) (i2.2 _ k2)
    refine ⟨fun k w => ⟨hsub w, fun j => ?_⟩, hsub⟩
    obtain ⟨u, v, rfl, k1, k2⟩ := Lg.cat_iff.1 j
    obtain ⟨da, db⟩ := hD.two i _ h (.inl rfl)
    rw [liveT, nd_at h] at da db
    simp only [if_true] at da db
    rw [getD_tl] at da db
    have d1 : tl (deadL l) (a : Nat) = false := by rw [Bool.eq_false_iff]; exact fun e => (dead_iff hs).1 e _ k1
    have d2 : tl (deadL l) (b : Nat) = false := by rw [Bool.eq_false_iff]; exact fun e => (dead_iff ht).1 e _ k2
    rw [k, d2] at da
    rw [k, d1] at db
    exact .cat ((i1.1 da _).2 k1) ((i2.1 db _).2 k2)
  | @alt i a b s t h ha hb hs ht i1 i2 =>
    rw [livT, nd_at h]
    simp only [Int.toNat_natCast]
    refine ⟨fun k w => ?_, fun w k => ?_⟩
    · obtain ⟨da, db⟩ := hD.two i _ h (.inr rfl)
      rw [liveT, nd_at h] at da db
      simp only [Int.reduceEq, if_false] at da db
      rw [getD_tl] at da db
      rw [k] at da db
      rw [Lg.alt_iff, Lg.alt_iff, i1.1 da, i2.1 db]
    · rcases Lg.alt_iff.1 k with k | k
      · exact .alt1 (i1.2 _ k)
      · exact .alt2 (i2.2 _ k)
  | @star i a s h ha hs i1 =>
    rw [livT, nd_at h]
    simp only [Int.toNat_natCast]
    refine ⟨fun k w => ?_, fun w k => star_mono i1.2 k⟩
    have da := hD.one i _ h rfl
    rw [liveT, nd_at h] at da
    simp only [Int.reduceEq, if_false] at da
    rw [getD_tl] at da
    rw [k] at da
    exact ⟨star_mono i1.2, star_mono fun w => (i1.1 da w).2⟩

/-- What may come behind words that were read: all of it, or what stands behind the places where the last one was. -/
theorem go_iff {l : List Nd} (hf : formB l = true) {t : RE} (ht : Sh l (l.length - 1) t) (w : List Wd) : ∀ (beg : Bool) (H : Nat → Bool), (goL l (emL l) (nextL l (emL l) beg H) (endsB l (emL l) beg H) w = true ↔ (beg = true ∧ Lg t w) ∨ Rm l H (l.length - 1) t w) := by
  induction w with
  | nil =>
    intro beg H
    rw [goL, endsB, Bool.or_eq_true, Bool.and_eq_true]
    have h1 := end_iff (H := H) (fun i t h => em_iff (l := l) h) ht
    have h2 := em_iff ht
    rw [getD_tl] at h1 h2
    rw [h1, h2]
    exact Or.comm
  | cons x w ih =>
    intro beg H
    rw [goL, ih false]
    obtain ⟨hD, h0⟩ := down_spec hf beg (nextT l (emL l) (endL l (emL l) H))
    have hl : (downA l beg (nextT l (emL l) (endL l (emL l) H)) l.length).length = l.length := downA_len _ _ _ _
    have hg := glu (H' := hereW l (nextL l (emL l) beg H) x) (fun i t h => em_iff (l := l) h) hD x (fun i s hs => by
      unfold hereW nextL nextD
      have hi := (List.getElem?_eq_some_iff.1 hs).1
      rw [Bool.and_eq_true, decide_eq_true_eq, nd_at hs, List.getD_eq_getElem?_getD, List.getElem?_mapIdx, List.getD_eq_getElem?_getD]
      rw [List.getElem?_eq_getElem (by rw [hl]; exact hi)]
      simp only [Option.map_some, Option.getD_some]
      unfold nextN
      rw [nd_at hs]
      simp) ht w
    rw [h0] at hg
    rw [hg]
    simp
theorem match_iff {l : List Nd} (hf : formB l = true) {t : RE} (ht : Sh l (l.length - 1) t) (w : List Wd) : matchG l w = true ↔ Lg t w := by
  unfold matchG
  have hl := liv_len l
  have h1 := liv_sh ht
  rw [← hl] at h1
  rw [go_iff (liv_form hf) h1 w true nowh]
  obtain ⟨_, h0⟩ := down_spec hf true (liveT l (deadL l))
  have h2 := (liv_lg hf ht).1 h0 w
  rw [hl, h2]
  simp only [true_and, or_iff_left_iff_imp]
  intro h
  have hn : ∀ (l : List Nd) (t : RE) (i : Nat) (w : List Wd), ¬ Rm l nowh i t w := by
    intro l t
    induction t with
    | none => intro i w h; rwa [Rm] at h
    | empty => intro i w h; rwa [Rm] at h
    | sym s => intro i w h; rw [Rm] at h; cases h.1
    | cat s t i1 i2 =>
      intro i w h; rw [Rm] at h
      rcases h with ⟨u, v, _, h, _⟩ | h
      · exact i1 _ _ h
      · exact i2 _ _ h
    | alt s t i1 i2 =>
      intro i w h; rw [Rm] at h
      rcases h with h | h
      · exact i1 _ _ h
      · exact i2 _ _ h
    | star s i1 =>
      intro i w h; rw [Rm] at h
      obtain ⟨u, v, _, h, _⟩ := h
      exact i1 _ _ h
  exact absurd h (hn _ _ _ _)
theorem null_eq (l : List Nd) : nullG l = matchG l [] := rfl
end Go.Proofs.Ytnaimmhdpjggmaa.U
