/- Contracts and plain facts that the law stands on: TrG. -/
import Derived.Test.YtjldpkhfiffinaaGreatDoorZA03
namespace Go.Proofs.YtjldpkhfiffinaaGreatDoor.U
theorem toks_flat (t : Tr) : ∀ (lb tx : List UInt8) (al : List (List UInt8 × List UInt8)) (ks : List Tr), t = .node lb tx al ks → lb ≠ [] → (textX t).length ≤ 2 + lb.length + (al.flatMap attrT).length + ((toksK ks).flatMap textT).length + (lb.length + 3) ∧ (ks = [] → (textX t).length ≤ 3 + lb.length + (al.flatMap attrT).length) := by
  intro lb tx al ks e h
  subst e
  unfold textX toksT
  rw [if_neg h]
  cases ks with
  | nil =>
    simp only [List.flatMap_cons, List.flatMap_nil, textT]
    simp [toksK]
    omega
  | cons k r =>
    refine ⟨?_, fun e => by cases e⟩
    simp only [List.flatMap_cons, List.flatMap_append, textT, toksK]
    simp
    omega
theorem text_flat (x : List UInt8) : textX (.node [] x [] []) = escL false x := by
  unfold textX toksT
  rw [if_pos rfl]
  simp [textT]
def lenK (ks : List Tr) : Nat := ((toksK ks).flatMap textT).length
theorem toksK_append : ∀ (a b : List Tr), toksK (a ++ b) = toksK a ++ toksK b := by
  intro a
  induction a with
  | nil => intro b; simp [toksK]
  | cons t r ih => intro b; simp [toksK, ih]
theorem lenK_snoc (ks : List Tr) (t : Tr) : lenK (ks ++ [t]) = lenK ks + (textX t).length := by
  unfold lenK textX
  rw [toksK_append, List.flatMap_append, List.length_append]
  simp [toksK]
theorem escL_append (v : Bool) (a b : List UInt8) : escL v (a ++ b) = escL v a ++ escL v b := by unfold escL; rw [List.flatMap_append]
/-- A text behind children. -/
theorem lenK_addTx {x : List UInt8} {ks : List Tr} (hb : bareK ks = true) : lenK (addTx x ks) ≤ lenK ks + (escL false x).length := by
  rcases List.eq_nil_or_concat ks with rfl | ⟨q, t, rfl⟩
  · have e : addTx x [] = [] ++ [.node [] x [] []] := rfl
    rw [e, lenK_snoc, text_flat]
    omega
  · rw [List.concat_eq_append] at hb ⊢
    rw [bareK_append, Bool.and_eq_true] at hb
    unfold addTx
    rw [List.getLast?_concat]
    cases t with
    | node lb tx al ks2 =>
      cases lb with
      | nil =>
        simp only [List.dropLast_concat]
        have h1 : al = [] ∧ ks2 = [] := by
          have := hb.2
          simp only [bareK, Bool.and_true] at this
          unfold bareA at this
          rw [Bool.and_eq_true] at this
          simpa using this.1
        obtain ⟨rfl, rfl⟩ := h1
        rw [lenK_snoc, lenK_snoc, text_flat, text_flat, escL_append, List.length_append]
        omega
      | cons c d =>
        simp only
        rw [lenK_snoc, text_flat]
        omega
/-- What the open elements are written as, but for their ends. -/
def lenF : List Fr → Nat
  | [] => 0
  | f :: r => 2 + f.lb.length + (f.al.flatMap attrT).length + lenK f.kids + lenF r
def lenR (root : Option Tr) : Nat := lenK root.toList
theorem lenF_add (t : Tr) (fs : List Fr) : lenF (addTr t fs none).1 + lenR (addTr t fs none).2 = lenF fs + (textX t).length := by
  cases fs with
  | nil =>
    simp only [addTr, lenF, lenR, Option.toList_some]
    have := lenK_snoc [] t
    rw [List.nil_append] at this
    rw [this]
    simp [lenK, toksK]
  | cons f q =>
    simp only [addTr, lenF, lenR, Option.toList_none]
    rw [lenK_snoc]
    simp [lenK, toksK]
    omega
theorem sortA_flat (l : List (List UInt8 × List UInt8)) : ((sortA l).flatMap attrT).length = (l.flatMap attrT).length := by
  have ins : ∀ (a : List UInt8 × List UInt8) (l : List (List UInt8 × List UInt8)), ((insA a l).flatMap attrT).length = (attrT a).length + (l.flatMap attrT).length := by
    intro a l
    induction l with
    | nil => simp [insA]
    | cons b r ih =>
      unfold insA
      split
      · simp only [List.flatMap_cons, List.length_append, ih]; omega
      · simp only [List.flatMap_cons, List.length_append]
  have fold : ∀ (l acc : List (List UInt8 × List UInt8)), ((l.foldl (fun acc a => insA a acc) acc).flatMap attrT).length = (acc.flatMap attrT).length + (l.flatMap attrT).length := by
    intro l
    induction l with
    | nil => intro acc; simp
    | cons a r ih =>
      intro acc
      rw [List.foldl_cons, ih, ins]
      simp only [List.flatMap_cons, List.length_append]
      omega
  have := fold l []
  unfold sortA
  rw [this]
  simp
theorem tree_len : ∀ (l : List Tok) (i : Nat) (fs : List Fr) (root : Option Tr), (∀ t ∈ l, t.kind = 2 → t.name ≠ []) → (∀ f ∈ fs, f.lb ≠ [] ∧ bareK f.kids = true) → (fs ≠ [] → root = none) → ∀ u, treeA i fs root l = .ok u → (textX u).length ≤ lenF fs + lenR root + (l.flatMap textT).length := by
  intro l
  induction l with
  | nil =>
    intro i fs root _ _ _ u hu
    cases fs with
    | cons f q => simp [treeA] at hu
    | nil =>
      cases root with
      | none => simp [treeA] at hu
      | some t =>
        simp only [treeA, Except.ok.injEq] at hu
        rw [← hu]
        simp only [lenF, lenR, Option.toList_some]
        have := lenK_snoc [] t
        rw [List.nil_append] at this
        rw [this]
        omega
  | cons t r ih =>
    intro i fs root hn hf hr u hu
    have hn2 : ∀ u ∈ r, u.kind = 2 → u.name ≠ [] := fun u hu => hn u (by simp [hu])
    rw [List.flatMap_cons, List.length_append]
    have addF : ∀ (v : Tr) (gs : List Fr), (∀ f ∈ gs, f.lb ≠ [] ∧ bareK f.kids = true) → bareA v = true → (∀ f ∈ (addTr v gs none).1, f.lb ≠ [] ∧ bareK f.kids = true) := by
      intro v gs hg hv f hf'
      cases gs with
      | nil => simp [addTr] at hf'
      | cons g q =>
        simp only [addTr] at hf'
        rcases List.mem_cons.1 hf' with rfl | hf'
        · refine ⟨(hg g (by simp)).1, ?_⟩
          simp only
          rw [bareK_append, (hg g (by simp)).2]
          simp [bareK, hv]
        · exact hg f (by simp [hf'])
    have addR : ∀ (v : Tr) (gs : List Fr), (addTr v gs none).1 ≠ [] → (addTr v gs none).2 = none := by
      intro v gs h
      cases gs with
      | nil => exact absurd rfl h
      | cons g q => rfl
    unfold treeA at hu
    split at hu
    · rename_i h2
      have hne := hn t (by simp) h2
      split at hu
      · cases hu
      · rename_i hd
        have hroot : root = none := by
          cases fs with
          | nil =>
            cases root with
            | none => rfl
            | some v => exact absurd ⟨rfl, rfl⟩ hd
          | cons f q => exact hr (by simp)
        subst hroot
        split at hu
        · have h3 := ih _ _ _ hn2 (addF _ fs hf (by simp [bareA, bareK, hne])) (addR _ fs) u hu
          rw [lenF_add] at h3
          have h4 := (toks_flat _ t.name [] (sortA t.attrs) [] rfl hne).2 rfl
          rw [sortA_flat] at h4
          have h5 : (textT t).length = 3 + t.name.length + (t.attrs.flatMap attrT).length := by
            rename_i he
            unfold textT
            rw [if_neg (by omega), if_pos h2, if_pos he]
            simp
            omega
          simp only [lenR, Option.toList_none, lenK, toksK, List.flatMap_nil, List.length_nil]
          omega
        · have h3 := ih _ _ _ hn2 (fun f hf' => by
            rcases List.mem_cons.1 hf' with rfl | hf'
            · exact ⟨hne, by simp [bareK]⟩
            · exact hf f hf') (fun _ => rfl) u hu
          simp only [lenF] at h3
          rw [sortA_flat] at h3
          have h5 : (textT t).length = 2 + t.name.length + (t.attrs.flatMap attrT).length := by
            rename_i he
            unfold textT
            rw [if_neg (by omega), if_pos h2, if_neg he]
            simp
            omega
          have h6 : lenK [] = 0 := by simp [lenK, toksK]
          omega
    · rename_i h2
      split at hu
      · rename_i h3'
        cases fs with
        | nil => cases hu
        | cons f q =>
          simp only at hu
          split at hu
          · cases hu
          · rename_i hl
            have hroot := hr (by simp)
            subst hroot
            obtain ⟨g1, g2⟩ := hf f (by simp)
            have hfq : ∀ f ∈ q, f.lb ≠ [] ∧ bareK f.kids = true := fun g hg => hf g (by simp [hg])
            have h3 := ih _ _ _ hn2 (addF _ q hfq (by simp [bareA, g1, g2])) (addR _ q) u hu
            rw [lenF_add] at h3
            have h4 := (toks_flat _ f.lb [] f.al f.kids rfl g1).1
            have h5 : (textT t).length = 3 + f.lb.length := by
              unfold textT
              rw [if_neg (by omega), if_neg h2, if_pos h3']
              have : f.lb = t.name := by simpa using hl
              rw [this]
              simp
              omega
            simp only [lenF]
            have h6 : lenK f.kids = ((toksK f.kids).flatMap textT).length := rfl
            simp only [lenR, Option.toList_none, lenK, toksK, List.flatMap_nil, List.length_nil] at *
            omega
      · split at hu
        · rename_i h3' h4'
          have h5 : (textT t).length = (escL false t.text).length := by
            unfold textT
            rw [if_neg (by omega), if_neg h2, if_neg h3', if_pos h4']
          cases fs with
          | nil =>
            simp only at hu
            split at hu
            · cases hu
            · have h3 := ih _ _ _ hn2 hf hr u hu
              omega
          | cons f q =>
            simp only at hu
            split at hu
            · have h3 := ih _ _ _ hn2 hf hr u hu
              omega
            · have h3 := ih _ _ _ hn2 (fun g hg => by
                rcases List.mem_cons.1 hg with rfl | hg
                · exact ⟨(hf f (by simp)).1, bare_addTx (hf f (by simp)).2⟩
                · exact hf g (by simp [hg])) (fun _ => hr (by simp)) u hu
              simp only [lenF] at h3 ⊢
              have h6 := lenK_addTx (x := t.text) (hf f (by simp)).2
              omega
        · have h3 := ih _ _ _ hn2 hf hr u hu
          omega
theorem treeL_len {l : List Tok} {u : Tr} (h : ∀ t ∈ l, t.kind = 2 → t.name ≠ []) (hu : treeL l = .ok u) : (textX u).length ≤ (l.flatMap textT).length := by
  have := tree_len l 0 [] none h (fun f hf => by cases hf) (fun h => absurd rfl h) u hu
  simpa [lenF, lenR, lenK, toksK] using this
end Go.Proofs.YtjldpkhfiffinaaGreatDoor.U
