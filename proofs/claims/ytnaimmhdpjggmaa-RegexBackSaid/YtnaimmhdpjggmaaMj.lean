/- The contracts of up: what is told of each node by what was told of those ahead. -/
import Derived.Test.YtnaimmhdpjggmaaMi
import Derived.Test.YtnaimmhdpjggmaaRx3
namespace Go.Proofs.Ytnaimmhdpjggmaa.U
open Go.RowKit

/-- That a closure tells of each node by what was told of those ahead. -/
def TellC {α : Type} (g : Nat) (cap : Array Value) (e : α → Value) (w : World) (n : Nat) (tell : Nat → List α → α) : Prop :=
  ∀ (k : Nat) (W : World) (tb : Nat), k < n → Below w.heap.size w W → w.heap.size ≤ tb → (∀ j x, (upA tell k)[j]? = some x → W.cell? ⟨tb, j, none⟩ = some (e x)) →
    Calls Try.prog g (#[.int .i64 (k : Int), .slice (some ⟨tb, 0, none⟩) n n] ++ cap) W fun r w' => r = .returned (e (tell k (upA tell k))) ∧ Below W.heap.size W w'

/-- What the rounds of up know. -/
structure UpIB (w wr : World) (n k : Nat) (tell : Nat → List Bool → Bool) : Prop where
  row : WR wr w.heap.size 4 ((upA tell k).map eB ++ List.replicate (n - k) (Value.bool false))
  kept : Below w.heap.size w wr
set_option maxHeartbeats 2000000 in
set_option maxRecDepth 10000 in
theorem upB_any (g : Nat) (cap : Array Value) (v : Value) (l : List Nd) (w : World) (tell : Nat → List Bool → Bool) (h : NR w v l) (hl : l.length ≤ 1024)
    (hg : ∀ args w, (callFunc g args).run Try.prog w = .ok (.enter g args) w) (ht : TellC g cap eB w l.length tell) :
    Calls Try.prog 46 #[v, .func (.func g) #[] cap] w fun e w' => e = .returned (.slice (some ⟨w.heap.size, 0, none⟩) l.length l.length) ∧ WR w' w.heap.size 4 ((upA tell l.length).map eB) ∧ Below w.heap.size w w' := by
  obtain ⟨a, c, rfl, h2, h3, h4⟩ := h.at
  obtain ⟨n, hn⟩ : ∃ n, n = l.length := ⟨_, rfl⟩
  rw [← hn] at hl ht ⊢
  have hmk := make_b n (by omega)
  have H0 : Hid (UpIB w (w.alloc (.cells (List.replicate n (Value.bool false)).toArray 4)) n 0 tell) := Lib.hid
    ⟨by have := WR.new w 4 (List.replicate n (Value.bool false)); simpa [upA] using this, (Below.refl _ w).alloc (Nat.le_refl _) _⟩
  have HT := Lib.hid ht
  clear h h2 h3 h4 hn ht
  go_enter Try.func46, Try.ntmps46
  go_wp2_with fail
  go_loopw [12] (fun i wr => ∃ k : Nat, i = .int .i64 k ∧ k ≤ n ∧ Hid (UpIB w wr n k tell)) (fun i _ => n - (intOf i).toNat)
  case atStart => exact ⟨0, rfl, by omega, H0⟩
  case round =>
    obtain ⟨k, rfl, hk, HI⟩ := hrel
    by_cases hlt : k < n
    · have hi0 : (0 : Int) ≤ k := by omega
      have hi1 : (k : Int) < n := by omega
      have hd1 : decide ((k : Int) < n) = true := by simp; omega
      have HLT := Lib.hid hlt
      have HC := Lib.hid (HT.out k wr w.heap.size hlt HI.out.kept (Nat.le_refl _) (fun j x hj => HI.out.row.cell (by
        rw [List.getElem?_append_left (by rw [List.length_map]; exact (List.getElem?_eq_some_iff.1 hj).1), List.getElem?_map, hj]; rfl)))
      clear hlt hk
      go_wp2_with fail
      refine HC.out.mono ?_
      rintro e w2 ⟨rfl, hb⟩
      have hrow := HI.out.row.below hb
      have HR2 := Lib.hid hrow
      have HB2 := Lib.hid (th HI.out.kept (Nat.le_refl _) hb)
      have s1 : w2.cell? ⟨w.heap.size, k, none⟩ = some (Value.bool false) := hrow.cell (by
        have := HLT.out
        rw [List.getElem?_append_right (by rw [List.length_map, upA_len]; exact Nat.le_refl _), List.length_map, upA_len, Nat.sub_self, List.getElem?_replicate, if_pos (by omega)])
      have s2 := hrow.froz k
      clear hb hrow
      generalize hu : tell k (upA tell k) = u
      have HU := Lib.hid hu
      clear hu
      have HF : Hid (UpIB w (w2.setCell ⟨w.heap.size, k, none⟩ (eB u)) n (k + 1) tell) := Lib.hid (by
        refine ⟨?_, HB2.out.setCell (Nat.le_refl _) _⟩
        have h9 := HR2.out.set k (eB u)
        have hlt := HLT.out
        have e : ((upA tell k).map eB ++ List.replicate (n - k) (Value.bool false)).set k (eB u) = (upA tell (k + 1)).map eB ++ List.replicate (n - (k + 1)) (Value.bool false) := by
          rw [List.set_append_right _ _ (by rw [List.length_map, upA_len]; exact Nat.le_refl _), List.length_map, upA_len, Nat.sub_self, show n - k = (n - (k + 1)) + 1 by omega, List.replicate_succ, List.set_cons_zero, upA, HU.out]
          simp
        rw [← e]
        exact h9)
      unfold eB at HF ⊢
      go_wp2_with fail
      go_roundw
      case rel => exact ⟨k + 1, by go_num, by have := HLT.out; omega, HF⟩
      case measure => have := HLT.out; simp [intOf]; omega
    · have hd1 : decide ((k : Int) < n) = false := by simp; omega
      have hd2 : decide (k < n) = false := by simp; omega
      have hkn : k = n := by omega
      have HKN := Lib.hid hkn
      clear hlt hk hkn
      go_wp2_with fail
      go_ret
      refine ⟨rfl, ?_, HI.out.kept⟩
      have h9 := HI.out.row
      rw [HKN.out, Nat.sub_self] at h9
      simpa using h9

/-- What the rounds of up know. -/
structure UpIS (w wr : World) (n k : Nat) (tell : Nat → List Wd → Wd) : Prop where
  row : WR wr w.heap.size 9 ((upA tell k).map eS ++ List.replicate (n - k) (Value.string ⟨#[]⟩))
  kept : Below w.heap.size w wr
set_option maxHeartbeats 2000000 in
set_option maxRecDepth 10000 in
theorem upS_any (g : Nat) (cap : Array Value) (v : Value) (l : List Nd) (w : World) (tell : Nat → List Wd → Wd) (h : NR w v l) (hl : l.length ≤ 1024)
    (hg : ∀ args w, (callFunc g args).run Try.prog w = .ok (.enter g args) w) (ht : TellC g cap eS w l.length tell) :
    Calls Try.prog 32 #[v, .func (.func g) #[] cap] w fun e w' => e = .returned (.slice (some ⟨w.heap.size, 0, none⟩) l.length l.length) ∧ WR w' w.heap.size 9 ((upA tell l.length).map eS) ∧ Below w.heap.size w w' := by
  obtain ⟨a, c, rfl, h2, h3, h4⟩ := h.at
  obtain ⟨n, hn⟩ : ∃ n, n = l.length := ⟨_, rfl⟩
  rw [← hn] at hl ht ⊢
  have hmk := make_s n (by omega)
  have H0 : Hid (UpIS w (w.alloc (.cells (List.replicate n (Value.string ⟨#[]⟩)).toArray 9)) n 0 tell) := Lib.hid
    ⟨by have := WR.new w 9 (List.replicate n (Value.string ⟨#[]⟩)); simpa [upA] using this, (Below.refl _ w).alloc (Nat.le_refl _) _⟩
  have HT := Lib.hid ht
  clear h h2 h3 h4 hn ht
  go_enter Try.func32, Try.ntmps32
  go_wp2_with fail
  go_loopw [12] (fun i wr => ∃ k : Nat, i = .int .i64 k ∧ k ≤ n ∧ Hid (UpIS w wr n k tell)) (fun i _ => n - (intOf i).toNat)
  case atStart => exact ⟨0, rfl, by omega, H0⟩
  case round =>
    obtain ⟨k, rfl, hk, HI⟩ := hrel
    by_cases hlt : k < n
    · have hi0 : (0 : Int) ≤ k := by omega
      have hi1 : (k : Int) < n := by omega
      have hd1 : decide ((k : Int) < n) = true := by simp; omega
      have HLT := Lib.hid hlt
      have HC := Lib.hid (HT.out k wr w.heap.size hlt HI.out.kept (Nat.le_refl _) (fun j x hj => HI.out.row.cell (by
        rw [List.getElem?_append_left (by rw [List.length_map]; exact (List.getElem?_eq_some_iff.1 hj).1), List.getElem?_map, hj]; rfl)))
      clear hlt hk
      go_wp2_with fail
      refine HC.out.mono ?_
      rintro e w2 ⟨rfl, hb⟩
      have hrow := HI.out.row.below hb
      have HR2 := Lib.hid hrow
      have HB2 := Lib.hid (th HI.out.kept (Nat.le_refl _) hb)
      have s1 : w2.cell? ⟨w.heap.size, k, none⟩ = some (Value.string ⟨#[]⟩) := hrow.cell (by
        have := HLT.out
        rw [List.getElem?_append_right (by rw [List.length_map, upA_len]; exact Nat.le_refl _), List.length_map, upA_len, Nat.sub_self, List.getElem?_replicate, if_pos (by omega)])
      have s2 := hrow.froz k
      clear hb hrow
      generalize hu : tell k (upA tell k) = u
      have HU := Lib.hid hu
      clear hu
      have HF : Hid (UpIS w (w2.setCell ⟨w.heap.size, k, none⟩ (eS u)) n (k + 1) tell) := Lib.hid (by
        refine ⟨?_, HB2.out.setCell (Nat.le_refl _) _⟩
        have h9 := HR2.out.set k (eS u)
        have hlt := HLT.out
        have e : ((upA tell k).map eS ++ List.replicate (n - k) (Value.string ⟨#[]⟩)).set k (eS u) = (upA tell (k + 1)).map eS ++ List.replicate (n - (k + 1)) (Value.string ⟨#[]⟩) := by
          rw [List.set_append_right _ _ (by rw [List.length_map, upA_len]; exact Nat.le_refl _), List.length_map, upA_len, Nat.sub_self, show n - k = (n - (k + 1)) + 1 by omega, List.replicate_succ, List.set_cons_zero, upA, HU.out]
          simp
        rw [← e]
        exact h9)
      unfold eS at HF ⊢
      go_wp2_with fail
      go_roundw
      case rel => exact ⟨k + 1, by go_num, by have := HLT.out; omega, HF⟩
      case measure => have := HLT.out; simp [intOf]; omega
    · have hd1 : decide ((k : Int) < n) = false := by simp; omega
      have hd2 : decide (k < n) = false := by simp; omega
      have hkn : k = n := by omega
      have HKN := Lib.hid hkn
      clear hlt hk hkn
      go_wp2_with fail
      go_ret
      refine ⟨rfl, ?_, HI.out.kept⟩
      have h9 := HI.out.row
      rw [HKN.out, Nat.sub_self] at h9
      simpa using h9
end Go.Proofs.Ytnaimmhdpjggmaa.U
