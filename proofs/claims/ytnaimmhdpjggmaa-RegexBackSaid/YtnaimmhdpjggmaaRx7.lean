/- How long the texts of an expression are. No dump is read here. -/
import Derived.Test.YtnaimmhdpjggmaaRx6
namespace Go.Proofs.Ytnaimmhdpjggmaa.U

theorem par_len (b : Bool) (x : Wd) : (par b x).length ≤ x.length + 2 := by unfold par; split <;> simp
theorem txt_len {t : RE} (h : namesT t = true) : (txt t).length ≤ 69 * sz t := by
  induction t with
  | none | empty => simp [txt, sz]
  | sym s =>
    obtain ⟨_, _, _, _, _, h64⟩ := name_head (s := s) (by simpa [namesT] using h)
    rw [txt, sz]; omega
  | cat s t i1 i2 =>
    rw [namesT, Bool.and_eq_true] at h
    have h1 := i1 h.1
    have h2 := i2 h.2
    have p1 := par_len (isAlt s) (txt s)
    have p2 := par_len (isCat t || isAlt t) (txt t)
    rw [txt, sz, List.length_append, List.length_cons]; omega
  | alt s t i1 i2 =>
    rw [namesT, Bool.and_eq_true] at h
    have h1 := i1 h.1
    have h2 := i2 h.2
    have p2 := par_len (isAlt t) (txt t)
    rw [txt, sz, List.length_append, List.length_cons]; omega
  | star s i1 =>
    rw [namesT] at h
    have h1 := i1 h
    have p1 := par_len (isCat s || isAlt s) (txt s)
    rw [txt, sz, List.length_append]; simp; omega
theorem par_up {l : List Nd} (hf : formB l = true) {i : Nat} (hi : i + 1 < l.length) : ∃ k n, i < k ∧ l[k]? = some n ∧ (i : Int) ∈ partsN n := by
  have hm : (i : Int) ∈ usesL l := List.count_pos_iff.1 (by rw [form_use hf (by omega)]; omega)
  unfold usesL at hm
  obtain ⟨n, hn, hp⟩ := List.mem_flatMap.1 hm
  obtain ⟨k, hk, rfl⟩ := List.mem_iff_getElem.1 hn
  obtain ⟨a, e, ha, _⟩ := use_le hf (List.getElem?_eq_getElem hk) hp
  exact ⟨k, _, by omega, List.getElem?_eq_getElem hk, hp⟩
theorem sz_part {l : List Nd} {k a : Nat} {n : Nd} {t s : RE} (hn : l[k]? = some n) (ht : Sh l k t) (hp : (a : Int) ∈ partsN n) (hs : Sh l a s) : sz s + 1 ≤ sz t := by
  cases ht with
  | none h | empty h | sym h => rw [h] at hn; cases hn; simp [partsN] at hp
  | cat h _ _ h1 h2 | alt h _ _ h1 h2 =>
    rw [h] at hn; cases hn
    simp [partsN] at hp
    rw [sz]
    rcases hp with e | e
    · obtain rfl := cast_inj e
      rw [hs.inj h1]; omega
    · obtain rfl := cast_inj e
      rw [hs.inj h2]; omega
  | star h _ h1 =>
    rw [h] at hn; cases hn
    simp [partsN] at hp
    obtain rfl := cast_inj hp
    rw [hs.inj h1, sz]; omega
theorem sub_sz {l : List Nd} (hf : formB l = true) : ∀ (d i : Nat) (t : RE), i + d + 1 = l.length → Sh l i t → sz t ≤ l.length := by
  intro d
  induction d using Nat.strongRecOn with
  | ind d ih =>
    intro i t he ht
    cases d with
    | zero =>
      obtain rfl : i = l.length - 1 := by omega
      rw [sz_all hf ht]; exact Nat.le_refl _
    | succ d =>
      obtain ⟨k, n, hik, hn, hp⟩ := par_up hf (i := i) (by omega)
      have hk := (List.getElem?_eq_some_iff.1 hn).1
      obtain ⟨s, hs⟩ := sh_of hf k hk
      have h1 := ih (l.length - 1 - k) (by omega) k s (by omega) hs
      have h2 := sz_part hn hs hp ht
      omega
/-- No text of a node is long. -/
theorem told_len {l : List Nd} (hf : formB l = true) (hn : namesB l = true) (hl : l.length ≤ 1024) {k j : Nat} (hj : j < k) (hk : k ≤ l.length) : (told (upA (txtT l) k) (j : Nat)).length ≤ 100000 := by
  obtain ⟨t, ht⟩ := sh_of hf j (by omega)
  have h1 : told (upA (txtT l) k) (j : Nat) = txt t := by rw [told_at hj]; exact txt_at ht
  have h2 := sub_sz hf (l.length - 1 - j) j t (by omega) ht
  have h3 := txt_len (sh_names hn ht)
  rw [h1]; omega
theorem textG_len {l : List Nd} (hf : formB l = true) (hn : namesB l = true) : (textG l).length ≤ 69 * l.length := by
  have h0 := form_pos hf
  obtain ⟨t, ht⟩ := sh_of hf (l.length - 1) (by omega)
  rw [text_eq ht]
  have h3 := txt_len (sh_names hn ht)
  rw [sz_all hf ht] at h3
  exact h3
end Go.Proofs.Ytnaimmhdpjggmaa.U
