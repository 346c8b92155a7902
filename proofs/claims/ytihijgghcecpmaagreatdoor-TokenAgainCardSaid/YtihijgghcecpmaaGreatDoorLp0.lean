/- The law TokenParts. -/
import Derived.Test.YtihijgghcecpmaaGreatDoorLl0
namespace Go.Proofs.YtihijgghcecpmaaGreatDoor.U
open Go.RowKit Go.Shelf

theorem tall_err (a : Option Addr) (len cap : Nat) (l : List UInt8) (w : World) (hm : LayT w) (hz : Byt w a len cap (ints l)) {p : Nat} {z : Int} (h : allT l = .error (p, z)) :
    Calls Tryz.prog 9 #[.slice a len cap] w fun e w' => e = .returned (.tuple #[.slice none 0 0, .int .i64 p, .int .i64 z]) ∧ Below w.heap.size w w' :=
  (tall_at a len cap l w hm hz).mono (by
    rintro e w' ⟨h1, ⟨_, _, _, h2, _⟩ | ⟨_, _, h2, rfl⟩⟩
    · rw [h] at h2; cases h2
    · rw [h] at h2
      injection h2 with h2
      obtain ⟨rfl, rfl⟩ := Prod.mk.inj h2
      exact ⟨rfl, h1⟩)
theorem tall_ok (a : Option Addr) (len cap : Nat) (l : List UInt8) (w : World) (hm : LayT w) (hz : Byt w a len cap (ints l)) {ts : List Tok} (h : allT l = .ok ts) :
    Calls Tryz.prog 9 #[.slice a len cap] w fun e w' => ∃ a1 c1, e = .returned (.tuple #[.slice a1 ts.length c1, .int .i64 0, .int .i64 0]) ∧ Below w.heap.size w w' ∧ TokAt w' (.slice a1 ts.length c1) ts :=
  (tall_at a len cap l w hm hz).mono (by
    rintro e w' ⟨h1, ⟨ts', a1, c1, h2, h3, h4⟩ | ⟨_, _, h2, _⟩⟩
    · rw [h] at h2
      injection h2 with h2
      subst h2
      exact ⟨a1, c1, h3, h1, h4⟩
    · rw [h] at h2; cases h2)
theorem tall_some (a : Option Addr) (len cap : Nat) (l : List UInt8) (w : World) (hm : LayT w) (hz : Byt w a len cap (ints l)) :
    Calls Tryz.prog 9 #[.slice a len cap] w fun e w' => ∃ v n c y z, e = .returned (.tuple #[.slice v n c, .int .i64 y, .int .i64 z]) ∧ Below w.heap.size w w' :=
  (tall_at a len cap l w hm hz).mono (by
    rintro e w' ⟨h1, ⟨_, _, _, _, h3, _⟩ | ⟨_, _, _, h3⟩⟩
    · exact ⟨_, _, _, _, _, h3, h1⟩
    · exact ⟨_, _, _, _, _, h3, h1⟩)
theorem allT_nz {l : List UInt8} {p : Nat} {z : Int} (h : allT l = .error (p, z)) : ¬ z = 0 := by
  unfold allT at h
  split at h
  · cases h; decide
  · split at h
    · cases h; decide
    · split at h
      · cases h
      · cases h; decide
theorem allT_pos {l : List UInt8} {ts : List Tok} (h : allT l = .ok ts) (hne : ts ≠ []) : 0 < l.length := by
  cases l with
  | nil =>
    have h0 : allT [] = .ok [] := by rfl
    rw [h0] at h
    cases h
    exact absurd rfl hne
  | cons c t => simp
theorem allT_ok {l : List UInt8} {ts : List Tok} (h : allT l = .ok ts) : Whole l ∧ allL3 (linesL l) = .ok ts ∧ l.length ≤ 65536 ∧ ¬ chkC (ints l) < l.length := by
  unfold allT at h
  split at h
  · cases h
  · split at h
    · cases h
    · rename_i h1 h2
      have h3 := chkC_le (ints l)
      rw [ints_len] at h3
      refine ⟨(wholeB_iff l).1 (by simp [wholeB]; omega), ?_, by omega, h2⟩
      cases h4 : allL3 (linesL l) with
      | ok us => rw [h4] at h; simpa using h
      | error p => rw [h4] at h; cases h
theorem byt_ints (l : List UInt8) : Lib.byteCells l = (ints l).map (Value.int .u8) := by
  unfold Lib.byteCells ints
  rw [List.map_map]
  rfl
/-- The cells of bytes that came in, for append. -/
theorem byt_news {w : World} {b off len cap : Nat} {l : List UInt8} (hz : Byt w (some ⟨b, off, none⟩) len cap (ints l)) : ∀ j u, (Lib.byteCells l)[j]? = some u → w.cell? ((⟨b, off, none⟩ : Addr).add j) = some u := by
  intro j u hj
  have hll : l.length = len := by have := hz.eqLen; rw [ints_len] at this; exact this
  have hjl : j < l.length := by
    rcases Nat.lt_or_ge j l.length with h1 | h1
    · exact h1
    · rw [List.getElem?_eq_none (by rw [Lib.byteCells_length]; exact h1)] at hj; cases hj
  obtain ⟨b', off', h1, h2⟩ := hz.cells (by omega)
  injection h1 with h1
  injection h1 with e1 e2 e3
  subst e1 e2
  have h3 := h2 j (by omega)
  have e : ((⟨b, off, none⟩ : Addr).add j) = ⟨b, off + j, none⟩ := by unfold Addr.add; split <;> simp_all
  rw [e, h3, ← hj]
  unfold Lib.byteCells ints
  rw [List.getElem?_map, List.getElem?_map, List.getElem?_eq_getElem hjl]
  rfl
theorem one_cells (l : List UInt8) : ∀ u ∈ Lib.byteCells l, u.oneCell' = true := by
  intro u hu
  unfold Lib.byteCells at hu
  obtain ⟨x, _, rfl⟩ := List.mem_map.1 hu
  rfl
theorem byt_addr {w : World} {a : Option Addr} {len cap : Nat} {zs : List Int} (hz : Byt w a len cap zs) (h0 : 0 < len) : ∃ b off, a = some ⟨b, off, none⟩ := by
  obtain ⟨b, off, h, _⟩ := hz.cells h0
  exact ⟨b, off, h⟩
theorem all_len {l : List UInt8} {ts : List Tok} (h : allT l = .ok ts) (hl : l.length ≤ 300) : ts.length ≤ 300 := by
  obtain ⟨h1, h2, _⟩ := allT_ok h
  have h3 := all_short3 (lines_whole h1) (lines_no13 l) h2
  have h4 := lines_len l
  omega
/-- The cells of a row of pieces, piece by piece. -/
theorem tok_get {w : World} {a : Option Addr} {c n : Nat} {ts : List Tok} (hn : ts.length = n) (h : TokAt w (.slice a n c) ts) : ∃ g off, (0 < n → a = some ⟨g, off, none⟩) ∧
    ∀ k t, ts[k]? = some t → ∃ a' c', w.cell? ⟨g, off + k * 5, none⟩ = some (.int .i64 t.kind) ∧ w.cell? ⟨g, off + k * 5 + 1, none⟩ = some (.string ⟨t.name.toArray⟩) ∧ w.cell? ⟨g, off + k * 5 + 2, none⟩ = some (.string ⟨t.text.toArray⟩) ∧ w.cell? ⟨g, off + k * 5 + 3, none⟩ = some (.slice a' t.attrs.length c') ∧ w.cell? ⟨g, off + k * 5 + 4, none⟩ = some (.bool t.empty) ∧ AtRow w (.slice a' t.attrs.length c') t.attrs.length 2 (attrCells t.attrs) := by
  subst hn
  obtain ⟨g, off, h1, h2⟩ := h.cells
  refine ⟨g, off, h1, fun k t hk => ?_⟩
  obtain ⟨hk1, rfl⟩ := List.getElem?_eq_some_iff.1 hk
  exact h2 k hk1
/-- The kinds of the first piece and of the last one. -/
theorem tok_first {w : World} {a : Option Addr} {c n : Nat} {t : Tok} {ts : List Tok} (hn : ts.length = n) (hh : ts.head? = some t) (h : TokAt w (.slice a n c) ts) : ∃ g off, a = some ⟨g, off, none⟩ ∧ w.cell? ⟨g, off, none⟩ = some (.int .i64 t.kind) := by
  obtain ⟨g, off, h1, h2⟩ := tok_get hn h
  obtain ⟨_, _, h3, _⟩ := h2 0 t (by rw [← hh, List.head?_eq_getElem?])
  refine ⟨g, off, h1 ?_, by simpa using h3⟩
  cases ts with
  | nil => cases hh
  | cons x r => rw [← hn]; simp
theorem tok_last {w : World} {a : Option Addr} {c n : Nat} {ts : List Tok} {k : Nat} {t : Tok} (hn : ts.length = n) (hk : n = k + 1) (hl : ts.getLast? = some t) (h : TokAt w (.slice a n c) ts) : ∃ g off, a = some ⟨g, off, none⟩ ∧ w.cell? ⟨g, off + k * 5, none⟩ = some (.int .i64 t.kind) := by
  obtain ⟨g, off, h1, h2⟩ := tok_get hn h
  obtain ⟨_, _, h3, _⟩ := h2 k t (by rw [← hl, List.getLast?_eq_getElem?, hn, hk]; rfl)
  exact ⟨g, off, h1 (by omega), h3⟩

end Go.Proofs.YtihijgghcecpmaaGreatDoor.U
