/- The contract of token.twice: whether two attributes have one name. -/
import Derived.Test.YtihijgghcecpmaaGreatDoorQ10
import Derived.Maps.OwnSet
namespace Go.Proofs.YtihijgghcecpmaaGreatDoor.U
open Go.RowKit Go.Shelf Go.Maps Go.WideMaps

theorem dupA_snoc (a : List UInt8 × List UInt8) : ∀ (l acc : List (List UInt8 × List UInt8)), dupA acc (l ++ [a]) = (dupA acc l || hasA (acc ++ l) a.1) := by
  intro l
  induction l with
  | nil => intro acc; simp [dupA]
  | cons c t ih =>
    intro acc
    simp only [List.cons_append, dupA]
    rw [ih, List.append_assoc, Bool.or_assoc]
    rfl
theorem hasA_append (l r : List (List UInt8 × List UInt8)) (n : List UInt8) : hasA (l ++ r) n = (hasA l n || hasA r n) := by simp [hasA]

def keyS (x : List UInt8) : Lit := .string x
theorem key_str (x : List UInt8) (h : x.length ≤ 2000000) : keyOf Tryz.prog 9 (.string ⟨x.toArray⟩) = some (keyS x) := by
  have hs : (⟨x.toArray⟩ : ByteArray).size ≤ maxLen := by
    have := bts_len ⟨x.toArray⟩
    rw [bts_mk] at this
    unfold maxLen; omega
  rw [keyOf_string_mk Tryz.underlying9 hs]
  simp [keyS]
theorem keyS_lit (x : List UInt8) : WideAt.IsKeyLit (keyS x) := by simp [keyS, WideAt.IsKeyLit]
theorem keyS_ne {x y : List UInt8} (h : x ≠ y) : keyS x ≠ keyS y := fun e => h (by unfold keyS at e; injection e)

/-- What the map of names is, behind some attributes. -/
def Names (D : DataW Unit) (l : List (List UInt8 × List UInt8)) : Prop :=
  (∀ x, has D (keyS x) = hasA l x) ∧ size D ≤ l.length ∧ decide (size D < l.length) = dupA [] l
theorem Names.nil : Names (.map []) [] := ⟨fun _ => rfl, Nat.le_refl _, rfl⟩
theorem Names.snoc {D : DataW Unit} {l : List (List UInt8 × List UInt8)} {a : List UInt8 × List UInt8} (h : Names D l) (ht : Tidy D) (d : DataW Unit) : Names (D.put (keyS a.1) d) (l ++ [a]) := by
  obtain ⟨h1, h2, h3⟩ := h
  have hsz := size_put ht (k := keyS a.1) d
  rw [h1] at hsz
  refine ⟨fun x => ?_, ?_, ?_⟩
  · rw [hasA_append]
    by_cases e : a.1 = x
    · subst e
      rw [has_put_same ht.isMap (keyS_lit _)]
      simp [hasA]
    · rw [has_put_other (fun e2 => keyS_ne e e2.symm), h1]
      have : (a.1 == x) = false := beq_eq_false_iff_ne.2 e
      simp [hasA, this]
  · rw [hsz, List.length_append, List.length_singleton]
    split <;> omega
  · rw [dupA_snoc, List.nil_append, ← h3, hsz, List.length_append, List.length_singleton]
    cases hh : hasA l a.1 with
    | true => simp; omega
    | false => simp

theorem makeMap_hint (n : Nat) (w : World) : (Instr.makeMap 124 (some (.int .i64 (n : Int)))).run Tryz.prog w = .ok (.map (some w.heap.size)) (w.alloc (.map #[] 0)) := by
  simp [Instr.makeMap, run_underlying Tryz.underlying124, asInt]
  rfl

set_option maxHeartbeats 2000000 in
set_option maxRecDepth 10000 in
theorem twice_any (l : List (List UInt8 × List UInt8)) (v : Value) (w : World) (hv : AtRow w v l.length 2 (attrCells l)) (hl : l.length ≤ 2000000) (hn : ∀ a ∈ l, a.1.length ≤ 2000000) :
    Calls Tryz.prog 57 #[v] w fun e w' => e = .returned (.bool (dupA [] l)) ∧ Below w.heap.size w w' := by
  obtain ⟨a, cap, rfl, hc, _, hx⟩ := hv
  obtain ⟨g, off, hag, hcell⟩ : ∃ g off, (0 < l.length → a = some ⟨g, off, none⟩) ∧ ∀ j u, (attrCells l)[j]? = some u → w.cell? ⟨g, off + j, none⟩ = some u := by
    by_cases h0 : 0 < l.length
    · obtain ⟨g, off, h1, h2⟩ := hx h0
      exact ⟨g, off, fun _ => h1, h2⟩
    · refine ⟨0, 0, fun h => absurd h h0, fun j u hu => ?_⟩
      have : (attrCells l).length = 0 := by rw [attrCells_len]; omega
      rw [List.eq_nil_of_length_eq_zero this] at hu
      cases hu
  have HAG := Lib.hid hag
  have HC := Lib.hid hcell
  have HNL := Lib.hid hn
  have hmm := makeMap_hint l.length w
  have law : Keyed Tryz.prog 9 := string_keyed Tryz.underlying9
  have zero3 : ∀ w : World, (zeroValue 3).run Tryz.prog w = .ok (.int .i64 0) w := fun w => by kernel_rfl
  clear hx hag hcell hn
  go_enter Tryz.func57, Tryz.ntmps57
  go_wp2_with fail
  clear hmm
  go_loopw [11] (fun i wr => ∃ (k : Nat) (D : DataW Unit), k ≤ l.length ∧ i = .int .i64 k ∧ Hid (wr.ownsMap Tryz.prog 9 (plainElem Tryz.prog 3) w.heap.size k D) ∧ Hid (Names D (l.take k)) ∧ Hid (Below w.heap.size w wr)) (fun i _ => l.length - (intOf i).toNat)
  case atStart => exact ⟨0, .map [], by omega, rfl, Lib.hid (World.ownsMap_made _ _ _ _), Lib.hid Names.nil, Lib.hid ((Below.refl _ w).alloc (Nat.le_refl _) _)⟩
  case round =>
    obtain ⟨k, D, hk, rfl, HO, HN, HB⟩ := hrel
    by_cases hlt : k < l.length
    · obtain rfl := HAG.out (by omega)
      have q1 := HC.out _ _ (attrCells_get l k hlt).1
      have q2 := HC.out _ _ (attrCells_get l k hlt).2
      have up : ∀ {p : Addr} {u : Value}, w.cell? p = some u → wr.cell? p = some u := fun h => (HB.out.cell (block_lt_of_cell h)).trans h
      have c1 := up q1
      have c2 : wr.cell? ⟨g, off + k * 2 + 1, none⟩ = some (.string ⟨(l[k]'hlt).2.toArray⟩) := up q2
      have HK1 := Lib.hid (key_str (l[k]'hlt).1 (HNL.out _ (List.getElem_mem hlt)))
      have HNX := Lib.hid (HN.out.snoc (a := l[k]'hlt) (HO.out.tidy law))
      rw [← List.take_succ_eq_append_getElem hlt] at HNX
      have hi0 : (0 : Int) ≤ k := by omega
      have hi1 : (k : Int) < l.length := by omega
      clear q1 q2 up
      generalize (l[k]'hlt).1 = x1 at c1 HK1 HNX
      generalize (l[k]'hlt).2 = x2 at c2
      have HO2 := Lib.hid (HO.out.alloc (.cells #[.string ⟨x1.toArray⟩, .string ⟨x2.toArray⟩] 48))
      obtain ⟨c, hrun, _, _⟩ := HO2.out.lookup_int law Tryz.underlying124 Tryz.underlying3 (zero3 _) HK1.out
      go_wp2_with (at_mapUpdate; refine wpList_mapUpdate_own _ rfl _ _ _ 124 rfl 9 3 law Tryz.underlying124 _ w.heap.size k _ rfl HO2.out (by unfold maxLen; omega) _ _ _ rfl rfl HK1.out _ [] (plainElem_int Tryz.underlying3 (wrap64_wf _)) ?_; intro w1 hown1 hgrow1)
      exact ⟨⟨k + 1, _, by omega, by go_num, Lib.hid hown1, Lib.hid (HNX.out _), Lib.hid (Below.grown (al HB.out (Nat.le_refl _) _) hgrow1 (by have := HB.out.size; simp at this ⊢; omega) (fun j e => by have := Option.some.inj e; omega))⟩, by simp [intOf]; omega⟩
    · obtain rfl : k = l.length := by omega
      have HF : Hid (decide (size D < l.length) = dupA [] l) := Lib.hid (by have := HN.out.2.2; rwa [List.take_of_length_le (by omega)] at this)
      go_wp2_with (at_len; refine wpList_len_own _ rfl _ 124 rfl 9 3 Tryz.underlying124 _ w.heap.size l.length D rfl HO.out ?_)
      go_ret
      refine ⟨?_, HB.out⟩
      rw [← HF.out]
      rfl
end Go.Proofs.YtihijgghcecpmaaGreatDoor.U
