/- The law's own small functions of layer 3: Few says yes or no. -/
import Derived.Test.YtihijgghcecpmaaGreatDoorLp0
namespace Go.Proofs.YtihijgghcecpmaaGreatDoor.U
open Go.RowKit Go.Shelf

/-- The cells of a row of attributes, one by one. -/
theorem attr_get {w : World} {a : Option Addr} {n c : Nat} {al : List (List UInt8 × List UInt8)} (hn : al.length = n) (h : AtRow w (.slice a n c) n 2 (attrCells al)) : ∃ g off, (0 < n → a = some ⟨g, off, none⟩) ∧
    ∀ k, k < n → ∃ x y : ByteArray, w.cell? ⟨g, off + k * 2, none⟩ = some (.string x) ∧ w.cell? ⟨g, off + k * 2 + 1, none⟩ = some (.string y) := by
  subst hn
  obtain ⟨a0, c0, hv, _, _, hx⟩ := h
  injection hv with e1 e2 e3
  subst e1 e3
  by_cases h0 : 0 < al.length
  · obtain ⟨g, off, hag, hc⟩ := hx h0
    refine ⟨g, off, fun _ => hag, fun k hk => ?_⟩
    obtain ⟨h1, h2⟩ := attrCells_get al k hk
    exact ⟨_, _, hc _ _ h1, by rw [Nat.add_assoc]; exact hc _ _ h2⟩
  · exact ⟨0, 0, fun h => absurd h h0, fun k hk => absurd (Nat.lt_of_le_of_lt (Nat.zero_le _) hk) h0⟩

/-- The call says yes or no. -/
def SomeB (e : Ending) : Prop := ∃ b, e = .returned (.bool b)

set_option maxHeartbeats 8000000 in
set_option maxRecDepth 20000 in
theorem few_any (a : Option Addr) (cap n : Nat) (ts : List Tok) (w : World) (hn : ts.length = n) (hv : TokAt w (.slice a n cap) ts) (hl : n ≤ 2000000) (hla : ∀ t ∈ ts, t.attrs.length ≤ 2000000) :
    Calls Tryz.prog 16 #[.slice a n cap] w fun e w' => SomeB e ∧ Below w.heap.size w w' := by
  obtain ⟨g, off, hag, hc⟩ := tok_get hn hv
  have HAG := Lib.hid hag
  have HC := Lib.hid hc
  have HN := Lib.hid hn
  have HLA := Lib.hid hla
  clear hag hc hv hn hla
  go_enter Tryz.func16, Tryz.ntmps16
  go_wp2_with fail
  go_loopw [3] (fun i wr => ∃ k : Nat, k ≤ n ∧ i = .int .i64 k ∧ Hid (Below w.heap.size w wr)) (fun i _ => n - (intOf i).toNat)
  case atStart => exact ⟨0, by omega, rfl, Lib.hid (Below.refl _ _)⟩
  case round =>
    obtain ⟨k, hk, rfl, HB⟩ := hrel
    by_cases hlt : k < n
    · obtain rfl := HAG.out (by omega)
      obtain ⟨t, ht⟩ : ∃ t, ts[k]? = some t := ⟨_, List.getElem?_eq_getElem (by rw [HN.out]; omega)⟩
      obtain ⟨x1, y1, p0, p1, p2, p3, p4, hp⟩ := HC.out k t ht
      have hta := HLA.out t (List.mem_of_getElem? ht)
      obtain ⟨nb, hnb⟩ : ∃ y : ByteArray, y = ⟨t.name.toArray⟩ := ⟨_, rfl⟩
      obtain ⟨tb, htb⟩ : ∃ y : ByteArray, y = ⟨t.text.toArray⟩ := ⟨_, rfl⟩
      rw [← hnb] at p1
      rw [← htb] at p2
      obtain ⟨n2, hn2⟩ : ∃ n2, t.attrs.length = n2 := ⟨_, rfl⟩
      rw [hn2] at p3 hta
      have HP : Hid (AtRow w (.slice x1 n2 y1) n2 2 (attrCells t.attrs)) := Lib.hid (by rw [← hn2]; exact hp)
      obtain ⟨g2, o2, hag2, hc2⟩ := attr_get hn2 HP.out
      have HAG2 := Lib.hid hag2
      have HC2 := Lib.hid hc2
      clear hnb htb ht hn2 hp hag2 hc2
      have hi0 : (0 : Int) ≤ k := by omega
      have hi1 : (k : Int) < n := by omega
      have HUP : Hid (∀ W, Below w.heap.size w W → W.cell? ⟨g, off + k * 5 + 3, none⟩ = some (.slice x1 n2 y1)) := Lib.hid (fun W hb => (hb.cell (block_lt_of_cell p3)).trans p3)
      have up : ∀ {p : Addr} {u : Value}, w.cell? p = some u → wr.cell? p = some u := fun h => (HB.out.cell (block_lt_of_cell h)).trans h
      have q1 := up p1
      have q2 := up p2
      have q3 := up p3
      clear p0 p1 p2 p3 p4 up
      by_cases h1 : (100 : Int) < (nb.size : Int)
      · go_wp2
        go_ret
        exact ⟨⟨_, rfl⟩, HB.out⟩
      have h1' : decide ((100 : Int) < (nb.size : Int)) = false := by simpa using h1
      clear h1
      by_cases h2 : (100 : Int) < (tb.size : Int)
      · go_wp2
        go_ret
        exact ⟨⟨_, rfl⟩, HB.out⟩
      have h2' : decide ((100 : Int) < (tb.size : Int)) = false := by simpa using h2
      clear h2
      by_cases h3 : (6 : Int) < (n2 : Int)
      · go_wp2
        go_ret
        exact ⟨⟨_, rfl⟩, HB.out⟩
      have h3' : decide ((6 : Int) < (n2 : Int)) = false := by simpa using h3
      clear h3
      go_wp2_with fail
      clear q1 q2 q3
      go_loopw [4] (fun i wq => ∃ m : Nat, m ≤ n2 ∧ i = .int .i64 m ∧ Hid (Below w.heap.size w wq)) (fun i _ => n2 - (intOf i).toNat)
      case atStart => exact ⟨0, by omega, rfl, HB⟩
      case round =>
        obtain ⟨m, hm, rfl, HB2⟩ := hrel
        have q3 := HUP.out _ HB2.out
        by_cases hlt2 : m < n2
        · obtain rfl := HAG2.out (by omega)
          obtain ⟨s1, s2, d0, d1⟩ := HC2.out m hlt2
          have e0 := (HB2.out.cell (block_lt_of_cell d0)).trans d0
          have e1 := (HB2.out.cell (block_lt_of_cell d1)).trans d1
          clear d0 d1
          have hm0 : (0 : Int) ≤ m := by omega
          have hm1 : (m : Int) < n2 := by omega
          by_cases h4 : (100 : Int) < (s1.size : Int)
          · go_wp2
            go_ret
            exact ⟨⟨_, rfl⟩, HB2.out⟩
          have h4' : decide ((100 : Int) < (s1.size : Int)) = false := by simpa using h4
          clear h4
          by_cases h5 : (100 : Int) < (s2.size : Int)
          · go_wp2
            go_ret
            exact ⟨⟨_, rfl⟩, HB2.out⟩
          have h5' : decide ((100 : Int) < (s2.size : Int)) = false := by simpa using h5
          clear h5
          go_wp2
          exact ⟨⟨m + 1, by omega, by go_num, HB2⟩, by simp [intOf]; omega⟩
        · obtain rfl : m = n2 := by omega
          go_wp2
          exact ⟨⟨k + 1, by omega, by go_num, HB2⟩, by simp [intOf]; omega⟩
    · obtain rfl : k = n := by omega
      go_wp2
      go_ret
      exact ⟨⟨_, rfl⟩, HB.out⟩
end Go.Proofs.YtihijgghcecpmaaGreatDoor.U
