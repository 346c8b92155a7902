/- The contracts of bytes.Clone and utf.All, and of the iterator that utf.All hands back. -/
import Derived.Test.YtomlmpcjbdkobaaDoorIter
import Derived.Test.YtomlmpcjbdkobaaDoorAwake
namespace Go.Proofs.YtomlmpcjbdkobaaDoor.U
open Go.RowKit Go.Shelf

/-- The cells of a list of bytes, as an append reads them. -/
theorem Byt.news {w : World} {x : Addr} {len cap : Nat} {zs : List Int} (h : Byt w (some x) len cap zs) : ∀ j u, (zs.map (Value.int .u8))[j]? = some u → w.cell? (x.add j) = some u := by
  intro j u hj
  rw [List.getElem?_map] at hj
  have hjl : j < zs.length := by
    rcases Nat.lt_or_ge j zs.length with h1 | h1
    · exact h1
    · rw [List.getElem?_eq_none h1] at hj; cases hj
  have hlen := h.eqLen
  obtain ⟨b, off, hx, hc⟩ := h.cells (by omega)
  cases hx
  have e : (⟨b, off, none⟩ : Addr).add j = ⟨b, off + j, none⟩ := by unfold Addr.add; split <;> simp_all
  rw [e, hc j (by omega), ← hj]
  simp [List.getElem?_eq_getElem hjl]

theorem one_all (l : List Int) : ∀ u ∈ l.map (Value.int .u8), u.oneCell' = true := by
  intro u hu
  simp only [List.mem_map] at hu
  obtain ⟨x, _, rfl⟩ := hu
  rfl

/-- A copy: the same bytes in memory of its own. -/
def ClonePost (zs : List Int) (len : Nat) (w : World) (e : Ending) (w' : World) : Prop :=
  ∃ a c, e = .returned (.slice a len c) ∧ Byt w' a len c zs ∧ Below w.heap.size w w'

set_option maxHeartbeats 1000000 in
theorem clone_any (a : Option Addr) (len cap : Nat) (zs : List Int) (w : World) (hz : Byt w a len cap zs) :
    Calls Tryd.prog 21 #[.slice a len cap] w fun e w' => ClonePost zs len w e w' := by
  cases a with
  | none =>
    have h0 : len = 0 := by
      rcases Nat.eq_zero_or_pos len with h | h
      · exact h
      · obtain ⟨_, _, h2, _⟩ := hz.cells h; cases h2
    subst h0
    have HZ := Lib.hid hz
    have he := fun wx : World => Lib.run_eql_slice_nil (P := Tryd.prog) wx 24 5 none 0 cap 0 0 Tryd.underlying24
    have hl := hz.eqLen
    have hzn : zs = [] := List.eq_nil_of_length_eq_zero hl
    have HB : Hid (Byt w none 0 0 zs) := ⟨hl, Nat.le_refl _, by omega, (fun z hz => by rw [hzn] at hz; cases hz), fun h => absurd h (by omega)⟩
    clear hz hl hzn
    go_enter Tryd.func21, Tryd.ntmps21
    go_wp2
    go_ret
    exact ⟨none, 0, rfl, HB.out, Below.refl _ _⟩
  | some x =>
    obtain ⟨i0, hi, hz0, hz1, hz2⟩ := info_parts info5
    have he := fun wx : World => Lib.run_eql_slice_nil (P := Tryd.prog) wx 24 5 (some x) len cap 0 0 Tryd.underlying24
    have HZ := Lib.hid hz
    have hlim := hz.lim
    have hlen := hz.eqLen
    have HLEN := Lib.hid hlen
    have HN := Lib.hid ((hz.below ((Below.refl _ w).alloc (Nat.le_refl _) (.cells #[] 5)) (Nat.le_refl _)).news)
    have HO := Lib.hid (World.ownsRow_made (base := w.heap.size) (e := 5) (size := 1) w #[] 0 (Nat.le_refl _) (by unfold maxLen; omega) rfl)
    clear hz hlen
    go_enter Tryd.func21, Tryd.ntmps21
    go_wp2_with (at_builtin; refine wpList_append_own _ rfl _ _ 24 rfl w.heap.size 5 i0 (.int .u8 0) 1 1 Tryd.underlying24 hi hz0 hz1 hz2 rfl (by decide) _ 0 [] rfl HO.out x len cap (zs.map (Value.int .u8)) rfl (by simp [HLEN.out]) HN.out (one_all _) (by unfold maxLen; omega) (by omega) (by simp) ?_; intro v1 w1 hown1 hgrow1 _)
    have hB : Below w.heap.size w w1 := ((Below.refl _ w).alloc (Nat.le_refl _) _).grown hgrow1 (by simp) (fun k e => (HO.out.lt k e).1)
    obtain ⟨a1, c1, rfl, hbyt⟩ := owned_byt (zs := zs) (by simpa using hown1) HZ.out.byte (by omega)
    rw [Nat.zero_add] at *
    have HBY := Lib.hid hbyt
    clear hown1 hgrow1 hbyt
    go_wp2
    go_ret
    exact ⟨a1, c1, rfl, HBY.out, hB⟩

/-- What utf.All hands back: a function value over a box that holds a copy of the bytes. -/
def AllPost (zs : List Int) (len : Nat) (w : World) (e : Ending) (w' : World) : Prop :=
  ∃ g a c, e = .returned (.func (.func 22) #[] #[.pointer (some ⟨g, 0, none⟩)]) ∧ w.heap.size ≤ g ∧ w'.cell? ⟨g, 0, none⟩ = some (.slice a len c) ∧ Byt w' a len c zs ∧ Below w.heap.size w w'

set_option maxHeartbeats 1000000 in
theorem all_any (a : Option Addr) (len cap : Nat) (zs : List Int) (w : World) (hz : Byt w a len cap zs) :
    Calls Tryd.prog 14 #[.slice a len cap] w fun e w' => AllPost zs len w e w' := by
  have HZ := Lib.hid hz
  clear hz
  go_enter Tryd.func14, Tryd.ntmps14
  go_wp2_with fail
  refine (clone_any a len cap zs _ HZ.out).mono ?_
  rintro e w1 ⟨a1, c1, rfl, hby, hb1⟩
  have HBY := Lib.hid hby
  have HB1 := Lib.hid hb1
  clear hby hb1
  go_wp2
  go_ret
  exact ⟨w1.heap.size, a1, c1, rfl, HB1.out.size, by simp, HBY.out.below ((Below.refl _ _).alloc (Nat.le_refl _) _) (Nat.le_refl _), al HB1.out (Nat.le_refl _) _⟩

attribute [local go_sem] Oper.semAt_some

set_option maxRecDepth 100000 in
set_option maxHeartbeats 1000000 in
/-- The iterator of utf.All: for every loop body that keeps what lay below n₀. -/
theorem all_stops (n g n₀ : Nat) (a : Option Addr) (len cap : Nat) (zs : List Int) (w : World) (hl : Lay w) (hn₀ : 2 ≤ n₀) (hnw : n₀ ≤ w.heap.size) (hg : g < n₀) (hc : w.cell? ⟨g, 0, none⟩ = some (.slice a len cap)) (hz : Byt w a len cap zs) (hbl : ∀ b off, 0 < len → a = some ⟨b, off, none⟩ → b < n₀) :
    SeqStopsK Fence.wide n Tryd.prog 22 #[.pointer (some ⟨g, 0, none⟩)] encCh (Below n₀) (fun ys => ys.map (·.1) = prsC zs) (fun pre => pre.map (·.1) <+: prsC zs) (prsC zs).length w := fun l J Jx W hW hJ _ hY h0 => by
  have hlW : Lay W := hl.below hW hl.size
  have hcW : W.cell? ⟨g, 0, none⟩ = some (.slice a len cap) := (hW.cell (p := ⟨g, 0, none⟩) (Nat.lt_of_lt_of_le hg hnw)).trans hc
  have hzW : Byt W a len cap zs := hz.below hW (Nat.le_refl _)
  have hnW : n₀ ≤ W.heap.size := Nat.le_trans hnw hW.size
  show CallsIn Fence.wide n Tryd.prog 22 #[.func (.yield l) #[] #[], .pointer (some ⟨g, 0, none⟩)] W _
  by_cases h0l : len = 0
  · have hz0 : zs = [] := List.eq_nil_of_length_eq_zero (by rw [hzW.eqLen]; exact h0l)
    subst hz0
    subst h0l
    have HJ := Lib.hid h0
    clear hY hJ h0 hz hzW hl hW hbl
    refine callsIn_of_wp Tryd.func22 rfl trivial ?_ rfl
    simp only [Tryd.ntmps22, List.size_toArray, List.length_cons, List.length_nil, Nat.reduceAdd, Nat.reduceSub, Array.replicate_succ, Array.replicate_zero, List.push_toArray, List.append_toArray, List.nil_append, List.cons_append]
    gi_wp2_with fail
    refine ⟨trivial, wide_le, ?_⟩
    refine (callsIn_wide.2 (walk_zero a cap _ _)).mono ?_
    rintro e w2 ⟨rfl, rfl⟩
    gi_wp2
    go_end0
    exact ⟨⟨_, rfl⟩, .inl ⟨[], rfl, HJ.out⟩⟩
  · obtain ⟨b, off, rfl, hcs⟩ := hzW.cells (by omega)
    have hbn : b < n₀ := hbl b off (by omega) rfl
    have hw := walk_yield (n - 1) l n₀ b off len cap zs J Jx (fun m pre x W1 hj hlen => yieldAt_anyDepth rfl m (hY pre x W1 hj hlen)) W hJ hlW hn₀ hzW.eqLen hzW.leCap hzW.byte hbn hcs hzW.lim hnW h0
    have HW := Lib.hid hw
    clear hw hY hJ h0 hz hzW hl hW hbl hcs
    refine callsIn_of_wp Tryd.func22 rfl trivial ?_ rfl
    simp only [Tryd.ntmps22, List.size_toArray, List.length_cons, List.length_nil, Nat.reduceAdd, Nat.reduceSub, Array.replicate_succ, Array.replicate_zero, List.push_toArray, List.append_toArray, List.nil_append, List.cons_append]
    gi_wp2_with fail
    refine ⟨trivial, wide_le, ?_⟩
    refine HW.out.mono ?_
    rintro e w2 ⟨⟨v, rfl⟩, hh⟩
    have HH := Lib.hid hh
    clear hh
    gi_wp2
    go_end0
    exact ⟨⟨_, rfl⟩, HH.out⟩
end Go.Proofs.YtomlmpcjbdkobaaDoor.U
