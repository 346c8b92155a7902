/- The contracts of the closures that tell of nodes. -/
import Derived.Test.YtnaimmhdpjggmaaMk
namespace Go.Proofs.Ytnaimmhdpjggmaa.U
open Go.RowKit

/-- The six kinds of nodes of an expression. -/
theorem nd_cases {l : List Nd} (hf : formB l = true) {k : Nat} {x : Nd} (hx : l[k]? = some x) :
    x = ⟨0, [], 0, 0⟩ ∨ x = ⟨1, [], 0, 0⟩ ∨ (∃ s, x = ⟨2, s, 0, 0⟩) ∨ (∃ a b : Nat, a < k ∧ b < k ∧ x = ⟨3, [], (a : Int), (b : Int)⟩) ∨ (∃ a b : Nat, a < k ∧ b < k ∧ x = ⟨4, [], (a : Int), (b : Int)⟩) ∨ ∃ a : Nat, a < k ∧ x = ⟨5, [], (a : Int), 0⟩ := by
  obtain ⟨h1, h2⟩ := okAt_iff.1 (form_at hf hx)
  obtain ⟨op, sym, a, b⟩ := x
  unfold okN at h1
  simp only [decide_eq_true_eq] at h1
  rcases h1 with ⟨rfl | rfl, rfl, rfl, rfl⟩ | ⟨rfl, rfl, rfl⟩ | ⟨rfl | rfl, rfl⟩ | ⟨rfl, rfl, rfl⟩
  · exact .inl rfl
  · exact .inr (.inl rfl)
  · exact .inr (.inr (.inl ⟨_, rfl⟩))
  · obtain ⟨a', rfl, ha⟩ := nat_of (h2 a (by simp [partsN]))
    obtain ⟨b', rfl, hb⟩ := nat_of (h2 b (by simp [partsN]))
    exact .inr (.inr (.inr (.inl ⟨a', b', ha, hb, rfl⟩)))
  · obtain ⟨a', rfl, ha⟩ := nat_of (h2 a (by simp [partsN]))
    obtain ⟨b', rfl, hb⟩ := nat_of (h2 b (by simp [partsN]))
    exact .inr (.inr (.inr (.inr (.inl ⟨a', b', ha, hb, rfl⟩))))
  · obtain ⟨a', rfl, ha⟩ := nat_of (h2 a (by simp [partsN]))
    exact .inr (.inr (.inr (.inr (.inr ⟨a', ha, rfl⟩))))
theorem told_cell {tell : Nat → List Bool → Bool} {k j : Nat} (h : j < k) : (upA tell k)[j]? = some (tl (upA tell k) (j : Nat)) := by
  rw [getD_tl]
  exact getD_get (by rw [upA_len]; exact h)
theorem tup_ret {a b c d : Bool} (h : a = c) (k : b = d) : Ending.returned (.tuple #[.bool a, .bool b]) = .returned (.tuple #[.bool c, .bool d]) := by rw [h, k]
set_option maxHeartbeats 4000000 in
set_option maxRecDepth 10000 in
theorem em_tell {l : List Nd} (hf : formB l = true) {w : World} {v : Value} (hv : NR w v l) {lb : Nat} (hc : w.cell? ⟨lb, 0, none⟩ = some v) : TellC 47 #[.pointer (some ⟨lb, 0, none⟩)] eB w l.length (emT l) := by
  intro k W tb hk hb htb htold
  obtain ⟨a, c, rfl, h2, h3, h4⟩ := (hv.th hb (Nat.le_refl _)).at
  obtain ⟨x, hx⟩ : ∃ x, l[k]? = some x := ⟨_, List.getElem?_eq_getElem hk⟩
  obtain ⟨g, o, rfl, k1, k2, k3, k4⟩ := h4 k x hx
  have hnd := nd_at hx
  have hcase := nd_cases hf hx
  have hc1 := up_cell hb (Nat.le_refl _) hc
  clear hc
  obtain ⟨n, hn⟩ : ∃ n, n = l.length := ⟨_, rfl⟩
  rw [← hn] at hk hc1 ⊢
  have hi0 : (0 : Int) ≤ k := by omega
  have hi1 : (k : Int) < n := by omega
  have HND := Lib.hid hnd
  clear hv h2 h3 h4 hx hnd
  rcases hcase with rfl | rfl | ⟨s, rfl⟩ | ⟨pa, pb, hpa, hpb, rfl⟩ | ⟨pa, pb, hpa, hpb, rfl⟩ | ⟨pa, hpa, rfl⟩
  · have HB := Lib.hid ((Below.refl W.heap.size W).alloc (Nat.le_refl _) (.cells #[.int .i64 0, .string ⟨#[]⟩, .int .i64 0, .int .i64 0] 45))
    have HV : Hid (emT l k (upA (emT l) k) = false) := Lib.hid (by rw [emT, HND.out]; simp)
    clear htold hf hn
    go_enter Try.func47, Try.ntmps47
    go_wp2_with fail
    go_ret
    exact ⟨by rw [HV.out]; first | rfl | simp, HB.out⟩
  · have HB := Lib.hid ((Below.refl W.heap.size W).alloc (Nat.le_refl _) (.cells #[.int .i64 1, .string ⟨#[]⟩, .int .i64 0, .int .i64 0] 45))
    have HV : Hid (emT l k (upA (emT l) k) = true) := Lib.hid (by rw [emT, HND.out]; simp)
    clear htold hf hn
    go_enter Try.func47, Try.ntmps47
    go_wp2_with fail
    go_ret
    exact ⟨by rw [HV.out]; first | rfl | simp, HB.out⟩
  · have HB := Lib.hid ((Below.refl W.heap.size W).alloc (Nat.le_refl _) (.cells #[.int .i64 2, .string ⟨s.toArray⟩, .int .i64 0, .int .i64 0] 45))
    have HV : Hid (emT l k (upA (emT l) k) = false) := Lib.hid (by rw [emT, HND.out]; simp)
    clear htold hf hn
    go_enter Try.func47, Try.ntmps47
    go_wp2_with fail
    go_ret
    exact ⟨by rw [HV.out]; first | rfl | simp, HB.out⟩
  · have HB := Lib.hid ((Below.refl W.heap.size W).alloc (Nat.le_refl _) (.cells #[.int .i64 3, .string ⟨#[]⟩, .int .i64 (pa : Int), .int .i64 (pb : Int)] 45))
    have ta := up_cell HB.out (Nat.le_refl _) (htold pa _ (told_cell hpa))
    have tb' := up_cell HB.out (Nat.le_refl _) (htold pb _ (told_cell hpb))
    have hpa0 : (0 : Int) ≤ pa := by omega
    have hpan : (pa : Int) < n := by omega
    have hpb0 : (0 : Int) ≤ pb := by omega
    have hpbn : (pb : Int) < n := by omega
    have HV : Hid (emT l k (upA (emT l) k) = (tl (upA (emT l) k) (pa : Nat) && tl (upA (emT l) k) (pb : Nat))) := Lib.hid (by rw [emT, HND.out]; simp)
    generalize tl (upA (emT l) k) (pa : Nat) = ya at ta HV
    generalize tl (upA (emT l) k) (pb : Nat) = yb at tb' HV
    unfold eB at ta tb'
    clear htold hf hn hpa hpb
    cases ya
    all_goals cases yb
    all_goals (
      go_enter Try.func47, Try.ntmps47
      go_wp2_with fail
      go_ret
      exact ⟨by rw [HV.out]; first | rfl | simp, HB.out⟩)
  · have HB := Lib.hid ((Below.refl W.heap.size W).alloc (Nat.le_refl _) (.cells #[.int .i64 4, .string ⟨#[]⟩, .int .i64 (pa : Int), .int .i64 (pb : Int)] 45))
    have ta := up_cell HB.out (Nat.le_refl _) (htold pa _ (told_cell hpa))
    have tb' := up_cell HB.out (Nat.le_refl _) (htold pb _ (told_cell hpb))
    have hpa0 : (0 : Int) ≤ pa := by omega
    have hpan : (pa : Int) < n := by omega
    have hpb0 : (0 : Int) ≤ pb := by omega
    have hpbn : (pb : Int) < n := by omega
    have HV : Hid (emT l k (upA (emT l) k) = (tl (upA (emT l) k) (pa : Nat) || tl (upA (emT l) k) (pb : Nat))) := Lib.hid (by rw [emT, HND.out]; simp)
    generalize tl (upA (emT l) k) (pa : Nat) = ya at ta HV
    generalize tl (upA (emT l) k) (pb : Nat) = yb at tb' HV
    unfold eB at ta tb'
    clear htold hf hn hpa hpb
    cases ya
    all_goals cases yb
    all_goals (
      go_enter Try.func47, Try.ntmps47
      go_wp2_with fail
      go_ret
      exact ⟨by rw [HV.out]; first | rfl | simp, HB.out⟩)
  · have HB := Lib.hid ((Below.refl W.heap.size W).alloc (Nat.le_refl _) (.cells #[.int .i64 5, .string ⟨#[]⟩, .int .i64 (pa : Int), .int .i64 0] 45))
    have ta := up_cell HB.out (Nat.le_refl _) (htold pa _ (told_cell hpa))
    have hpa0 : (0 : Int) ≤ pa := by omega
    have hpan : (pa : Int) < n := by omega
    have HV : Hid (emT l k (upA (emT l) k) = true) := Lib.hid (by rw [emT, HND.out]; simp)
    generalize tl (upA (emT l) k) (pa : Nat) = ya at ta HV
    unfold eB at ta
    clear htold hf hn hpa
    go_enter Try.func47, Try.ntmps47
    go_wp2_with fail
    go_ret
    exact ⟨by rw [HV.out]; first | rfl | simp, HB.out⟩
set_option maxHeartbeats 4000000 in
set_option maxRecDepth 10000 in
theorem dead_tell {l : List Nd} (hf : formB l = true) {w : World} {v : Value} (hv : NR w v l) {lb : Nat} (hc : w.cell? ⟨lb, 0, none⟩ = some v) : TellC 57 #[.pointer (some ⟨lb, 0, none⟩)] eB w l.length (deadT l) := by
  intro k W tb hk hb htb htold
  obtain ⟨a, c, rfl, h2, h3, h4⟩ := (hv.th hb (Nat.le_refl _)).at
  obtain ⟨x, hx⟩ : ∃ x, l[k]? = some x := ⟨_, List.getElem?_eq_getElem hk⟩
  obtain ⟨g, o, rfl, k1, k2, k3, k4⟩ := h4 k x hx
  have hnd := nd_at hx
  have hcase := nd_cases hf hx
  have hc1 := up_cell hb (Nat.le_refl _) hc
  clear hc
  obtain ⟨n, hn⟩ : ∃ n, n = l.length := ⟨_, rfl⟩
  rw [← hn] at hk hc1 ⊢
  have hi0 : (0 : Int) ≤ k := by omega
  have hi1 : (k : Int) < n := by omega
  have HND := Lib.hid hnd
  clear hv h2 h3 h4 hx hnd
  rcases hcase with rfl | rfl | ⟨s, rfl⟩ | ⟨pa, pb, hpa, hpb, rfl⟩ | ⟨pa, pb, hpa, hpb, rfl⟩ | ⟨pa, hpa, rfl⟩
  · have HB := Lib.hid ((Below.refl W.heap.size W).alloc (Nat.le_refl _) (.cells #[.int .i64 0, .string ⟨#[]⟩, .int .i64 0, .int .i64 0] 45))
    have HV : Hid (deadT l k (upA (deadT l) k) = true) := Lib.hid (by rw [deadT, HND.out]; simp)
    clear htold hf hn
    go_enter Try.func57, Try.ntmps57
    go_wp2_with fail
    go_ret
    exact ⟨by rw [HV.out]; first | rfl | simp, HB.out⟩
  · have HB := Lib.hid ((Below.refl W.heap.size W).alloc (Nat.le_refl _) (.cells #[.int .i64 1, .string ⟨#[]⟩, .int .i64 0, .int .i64 0] 45))
    have HV : Hid (deadT l k (upA (deadT l) k) = false) := Lib.hid (by rw [deadT, HND.out]; simp)
    clear htold hf hn
    go_enter Try.func57, Try.ntmps57
    go_wp2_with fail
    go_ret
    exact ⟨by rw [HV.out]; first | rfl | simp, HB.out⟩
  · have HB := Lib.hid ((Below.refl W.heap.size W).alloc (Nat.le_refl _) (.cells #[.int .i64 2, .string ⟨s.toArray⟩, .int .i64 0, .int .i64 0] 45))
    have HV : Hid (deadT l k (upA (deadT l) k) = false) := Lib.hid (by rw [deadT, HND.out]; simp)
    clear htold hf hn
    go_enter Try.func57, Try.ntmps57
    go_wp2_with fail
    go_ret
    exact ⟨by rw [HV.out]; first | rfl | simp, HB.out⟩
  · have HB := Lib.hid ((Below.refl W.heap.size W).alloc (Nat.le_refl _) (.cells #[.int .i64 3, .string ⟨#[]⟩, .int .i64 (pa : Int), .int .i64 (pb : Int)] 45))
    have ta := up_cell HB.out (Nat.le_refl _) (htold pa _ (told_cell hpa))
    have tb' := up_cell HB.out (Nat.le_refl _) (htold pb _ (told_cell hpb))
    have hpa0 : (0 : Int) ≤ pa := by omega
    have hpan : (pa : Int) < n := by omega
    have hpb0 : (0 : Int) ≤ pb := by omega
    have hpbn : (pb : Int) < n := by omega
    have HV : Hid (deadT l k (upA (deadT l) k) = (tl (upA (deadT l) k) (pa : Nat) || tl (upA (deadT l) k) (pb : Nat))) := Lib.hid (by rw [deadT, HND.out]; simp)
    generalize tl (upA (deadT l) k) (pa : Nat) = ya at ta HV
    generalize tl (upA (deadT l) k) (pb : Nat) = yb at tb' HV
    unfold eB at ta tb'
    clear htold hf hn hpa hpb
    cases ya
    all_goals cases yb
    all_goals (
      go_enter Try.func57, Try.ntmps57
      go_wp2_with fail
      go_ret
      exact ⟨by rw [HV.out]; first | rfl | simp, HB.out⟩)
  · have HB := Lib.hid ((Below.refl W.heap.size W).alloc (Nat.le_refl _) (.cells #[.int .i64 4, .string ⟨#[]⟩, .int .i64 (pa : Int), .int .i64 (pb : Int)] 45))
    have ta := up_cell HB.out (Nat.le_refl _) (htold pa _ (told_cell hpa))
    have tb' := up_cell HB.out (Nat.le_refl _) (htold pb _ (told_cell hpb))
    have hpa0 : (0 : Int) ≤ pa := by omega
    have hpan : (pa : Int) < n := by omega
    have hpb0 : (0 : Int) ≤ pb := by omega
    have hpbn : (pb : Int) < n := by omega
    have HV : Hid (deadT l k (upA (deadT l) k) = (tl (upA (deadT l) k) (pa : Nat) && tl (upA (deadT l) k) (pb : Nat))) := Lib.hid (by rw [deadT, HND.out]; simp)
    generalize tl (upA (deadT l) k) (pa : Nat) = ya at ta HV
    generalize tl (upA (deadT l) k) (pb : Nat) = yb at tb' HV
    unfold eB at ta tb'
    clear htold hf hn hpa hpb
    cases ya
    all_goals cases yb
    all_goals (
      go_enter Try.func57, Try.ntmps57
      go_wp2_with fail
      go_ret
      exact ⟨by rw [HV.out]; first | rfl | simp, HB.out⟩)
  · have HB := Lib.hid ((Below.refl W.heap.size W).alloc (Nat.le_refl _) (.cells #[.int .i64 5, .string ⟨#[]⟩, .int .i64 (pa : Int), .int .i64 0] 45))
    have HV : Hid (deadT l k (upA (deadT l) k) = false) := Lib.hid (by rw [deadT, HND.out]; simp)
    clear htold hf hn hpa
    go_enter Try.func57, Try.ntmps57
    go_wp2_with fail
    go_ret
    exact ⟨by rw [HV.out]; first | rfl | simp, HB.out⟩
/-- That a closure tells where words are. -/
def HereC (g : Nat) (cap : Array Value) (w : World) (n : Nat) (here : Nat → Bool) : Prop :=
  (∀ args w, (callFunc g args).run Try.prog w = .ok (.enter g args) w) ∧ ∀ (k : Nat) (W : World), k < n → Below w.heap.size w W → Calls Try.prog g (#[.int .i64 (k : Int)] ++ cap) W fun r w' => r = .returned (.bool (here k)) ∧ Below W.heap.size W w'
/-- A row of bools in a block, and a variable that holds it. -/
structure BoolsAt (w : World) (p : Addr) (g n : Nat) (bs : List Bool) : Prop where
  var : w.cell? p = some (.slice (some ⟨g, 0, none⟩) n n)
  row : WR w g 4 (bs.map eB)
  len : bs.length = n
theorem BoolsAt.below {w w' : World} {p : Addr} {g n : Nat} {bs : List Bool} (h : BoolsAt w p g n bs) (hb : Below w.heap.size w w') : BoolsAt w' p g n bs := ⟨up_cell hb (Nat.le_refl _) h.var, h.row.below hb, h.len⟩
theorem BoolsAt.get {w : World} {p : Addr} {g n : Nat} {bs : List Bool} (h : BoolsAt w p g n bs) {j : Nat} (hj : j < n) : w.cell? ⟨g, j, none⟩ = some (.bool (tl bs (j : Nat))) := by
  rw [getD_tl]
  exact h.row.cell (by rw [List.getElem?_map, getD_get (by rw [h.len]; exact hj)]; rfl)
set_option maxHeartbeats 4000000 in
set_option maxRecDepth 10000 in
theorem end_tell {l : List Nd} (hf : formB l = true) {w : World} {v : Value} (hv : NR w v l) {mb eb qb gh : Nat} {hcap : Array Value} {em : List Bool} {here : Nat → Bool} (hc : w.cell? ⟨mb, 0, none⟩ = some v) (he : BoolsAt w ⟨mb, 1, none⟩ eb l.length em) (hh : w.cell? ⟨qb, 0, none⟩ = some (.func (.func gh) #[] hcap)) (hhc : HereC gh hcap w l.length here) : TellC 48 #[.pointer (some ⟨mb, 0, none⟩), .pointer (some ⟨qb, 0, none⟩)] eB w l.length (endT l em here) := by
  intro k W tb hk hb htb htold
  obtain ⟨a, c, rfl, h2, h3, h4⟩ := (hv.th hb (Nat.le_refl _)).at
  obtain ⟨x, hx⟩ : ∃ x, l[k]? = some x := ⟨_, List.getElem?_eq_getElem hk⟩
  obtain ⟨g, o, rfl, k1, k2, k3, k4⟩ := h4 k x hx
  have hnd := nd_at hx
  have hcase := nd_cases hf hx
  have hc1 := up_cell hb (Nat.le_refl _) hc
  have hbe := he.below hb
  have hv1 := hbe.var
  have hh1 := up_cell hb (Nat.le_refl _) hh
  have HHC := Lib.hid (fun (W' : World) (hb' : Below W.heap.size W W') => hhc.2 k W' hk (th hb (Nat.le_refl _) hb'))
  have hent := hhc.1
  clear hc he hh hhc
  obtain ⟨n, hn⟩ : ∃ n, n = l.length := ⟨_, rfl⟩
  rw [← hn] at hk hc1 hv1 hbe ⊢
  have hi0 : (0 : Int) ≤ k := by omega
  have hi1 : (k : Int) < n := by omega
  have HND := Lib.hid hnd
  clear hv h2 h3 h4 hx hnd
  rcases hcase with rfl | rfl | ⟨s, rfl⟩ | ⟨pa, pb, hpa, hpb, rfl⟩ | ⟨pa, pb, hpa, hpb, rfl⟩ | ⟨pa, hpa, rfl⟩
  · have HB := Lib.hid ((Below.refl W.heap.size W).alloc (Nat.le_refl _) (.cells #[.int .i64 0, .string ⟨#[]⟩, .int .i64 0, .int .i64 0] 45))
    have HV : Hid (endT l em here k (upA (endT l em here) k) = false) := Lib.hid (by rw [endT, HND.out]; simp)
    clear htold hf hn
    go_enter Try.func48, Try.ntmps48
    go_wp2_with fail
    go_ret
    exact ⟨by rw [HV.out]; first | rfl | simp, HB.out⟩
  · have HB := Lib.hid ((Below.refl W.heap.size W).alloc (Nat.le_refl _) (.cells #[.int .i64 1, .string ⟨#[]⟩, .int .i64 0, .int .i64 0] 45))
    have HV : Hid (endT l em here k (upA (endT l em here) k) = false) := Lib.hid (by rw [endT, HND.out]; simp)
    clear htold hf hn
    go_enter Try.func48, Try.ntmps48
    go_wp2_with fail
    go_ret
    exact ⟨by rw [HV.out]; first | rfl | simp, HB.out⟩
  · have HB := Lib.hid ((Below.refl W.heap.size W).alloc (Nat.le_refl _) (.cells #[.int .i64 2, .string ⟨s.toArray⟩, .int .i64 0, .int .i64 0] 45))
    have HV : Hid (endT l em here k (upA (endT l em here) k) = here k) := Lib.hid (by rw [endT, HND.out]; simp)
    have hh2 := up_cell HB.out (Nat.le_refl _) hh1
    clear htold hf hn
    go_enter Try.func48, Try.ntmps48
    go_wp2_with fail
    refine (HHC.out _ HB.out).mono ?_
    rintro e w2 ⟨rfl, hb2⟩
    have HB2 := Lib.hid (th HB.out (Nat.le_refl _) hb2)
    clear hb2
    generalize hy : here k = y at HV
    have HY := Lib.hid hy
    clear hy
    go_wp2_with fail
    go_ret
    exact ⟨by rw [HV.out]; rfl, HB2.out⟩
  · have HB := Lib.hid ((Below.refl W.heap.size W).alloc (Nat.le_refl _) (.cells #[.int .i64 3, .string ⟨#[]⟩, .int .i64 (pa : Int), .int .i64 (pb : Int)] 45))
    have ta := up_cell HB.out (Nat.le_refl _) (htold pa _ (told_cell hpa))
    have tb' := up_cell HB.out (Nat.le_refl _) (htold pb _ (told_cell hpb))
    have hpa0 : (0 : Int) ≤ pa := by omega
    have hpan : (pa : Int) < n := by omega
    have hpb0 : (0 : Int) ≤ pb := by omega
    have hpbn : (pb : Int) < n := by omega
    have HV : Hid (endT l em here k (upA (endT l em here) k) = (tl (upA (endT l em here) k) (pb : Nat) || (tl (upA (endT l em here) k) (pa : Nat) && tl em (pb : Nat)))) := Lib.hid (by rw [endT, HND.out]; simp)
    generalize tl (upA (endT l em here) k) (pa : Nat) = ya at ta HV
    generalize tl (upA (endT l em here) k) (pb : Nat) = yb at tb' HV
    unfold eB at ta tb'
    have hv2 := up_cell HB.out (Nat.le_refl _) hv1
    have te := up_cell HB.out (Nat.le_refl _) (hbe.get (by omega : pb < n))
    generalize tl em (pb : Nat) = ye at te HV
    clear htold hf hn hpa hpb
    cases ya
    all_goals cases yb
    all_goals cases ye
    all_goals (
      go_enter Try.func48, Try.ntmps48
      go_wp2_with fail
      go_ret
      exact ⟨by rw [HV.out]; first | rfl | simp, HB.out⟩)
  · have HB := Lib.hid ((Below.refl W.heap.size W).alloc (Nat.le_refl _) (.cells #[.int .i64 4, .string ⟨#[]⟩, .int .i64 (pa : Int), .int .i64 (pb : Int)] 45))
    have ta := up_cell HB.out (Nat.le_refl _) (htold pa _ (told_cell hpa))
    have tb' := up_cell HB.out (Nat.le_refl _) (htold pb _ (told_cell hpb))
    have hpa0 : (0 : Int) ≤ pa := by omega
    have hpan : (pa : Int) < n := by omega
    have hpb0 : (0 : Int) ≤ pb := by omega
    have hpbn : (pb : Int) < n := by omega
    have HV : Hid (endT l em here k (upA (endT l em here) k) = (tl (upA (endT l em here) k) (pa : Nat) || tl (upA (endT l em here) k) (pb : Nat))) := Lib.hid (by rw [endT, HND.out]; simp)
    generalize tl (upA (endT l em here) k) (pa : Nat) = ya at ta HV
    generalize tl (upA (endT l em here) k) (pb : Nat) = yb at tb' HV
    unfold eB at ta tb'
    clear htold hf hn hpa hpb
    cases ya
    all_goals cases yb
    all_goals (
      go_enter Try.func48, Try.ntmps48
      go_wp2_with fail
      go_ret
      exact ⟨by rw [HV.out]; first | rfl | simp, HB.out⟩)
  · have HB := Lib.hid ((Below.refl W.heap.size W).alloc (Nat.le_refl _) (.cells #[.int .i64 5, .string ⟨#[]⟩, .int .i64 (pa : Int), .int .i64 0] 45))
    have ta := up_cell HB.out (Nat.le_refl _) (htold pa _ (told_cell hpa))
    have hpa0 : (0 : Int) ≤ pa := by omega
    have hpan : (pa : Int) < n := by omega
    have HV : Hid (endT l em here k (upA (endT l em here) k) = tl (upA (endT l em here) k) (pa : Nat)) := Lib.hid (by rw [endT, HND.out]; simp)
    generalize tl (upA (endT l em here) k) (pa : Nat) = ya at ta HV
    unfold eB at ta
    clear htold hf hn hpa
    cases ya
    all_goals (
      go_enter Try.func48, Try.ntmps48
      go_wp2_with fail
      go_ret
      exact ⟨by rw [HV.out]; first | rfl | simp, HB.out⟩)
set_option maxHeartbeats 4000000 in
set_option maxRecDepth 10000 in
theorem live_tell {l : List Nd} (hf : formB l = true) {w : World} {v : Value} (hv : NR w v l) {lb db deb : Nat} {dead : List Bool} (hc : w.cell? ⟨lb, 0, none⟩ = some v) (hd : BoolsAt w ⟨db, 0, none⟩ deb l.length dead) : DownC 58 #[.pointer (some ⟨lb, 0, none⟩), .pointer (some ⟨db, 0, none⟩)] w l.length (liveT l dead) := by
  intro k d W hk hb
  obtain ⟨a, c, rfl, h2, h3, h4⟩ := (hv.th hb (Nat.le_refl _)).at
  obtain ⟨x, hx⟩ : ∃ x, l[k]? = some x := ⟨_, List.getElem?_eq_getElem hk⟩
  obtain ⟨g, o, rfl, k1, k2, k3, k4⟩ := h4 k x hx
  have hnd := nd_at hx
  have hcase := nd_cases hf hx
  have hc1 := up_cell hb (Nat.le_refl _) hc
  have hbd := hd.below hb
  have hv1 := hbd.var
  clear hc hd
  obtain ⟨n, hn⟩ : ∃ n, n = l.length := ⟨_, rfl⟩
  rw [← hn] at hk hc1 hv1 hbd
  have hi0 : (0 : Int) ≤ k := by omega
  have hi1 : (k : Int) < n := by omega
  have HND := Lib.hid hnd
  clear hv h2 h3 h4 hx hnd
  rcases hcase with rfl | rfl | ⟨s, rfl⟩ | ⟨pa, pb, hpa, hpb, rfl⟩ | ⟨pa, pb, hpa, hpb, rfl⟩ | ⟨pa, hpa, rfl⟩
  · have HB := Lib.hid ((Below.refl W.heap.size W).alloc (Nat.le_refl _) (.cells #[.int .i64 0, .string ⟨#[]⟩, .int .i64 0, .int .i64 0] 45))
    have HV : Hid (liveT l dead k d = (d, d)) := Lib.hid (by rw [liveT, HND.out]; simp)
    clear hf hn
    go_enter Try.func58, Try.ntmps58
    go_wp2_with fail
    go_ret2
    exact ⟨by rw [HV.out]; first | rfl | (exact tup_ret (by simp) (by simp)), HB.out⟩
  · have HB := Lib.hid ((Below.refl W.heap.size W).alloc (Nat.le_refl _) (.cells #[.int .i64 1, .string ⟨#[]⟩, .int .i64 0, .int .i64 0] 45))
    have HV : Hid (liveT l dead k d = (d, d)) := Lib.hid (by rw [liveT, HND.out]; simp)
    clear hf hn
    go_enter Try.func58, Try.ntmps58
    go_wp2_with fail
    go_ret2
    exact ⟨by rw [HV.out]; first | rfl | (exact tup_ret (by simp) (by simp)), HB.out⟩
  · have HB := Lib.hid ((Below.refl W.heap.size W).alloc (Nat.le_refl _) (.cells #[.int .i64 2, .string ⟨s.toArray⟩, .int .i64 0, .int .i64 0] 45))
    have HV : Hid (liveT l dead k d = (d, d)) := Lib.hid (by rw [liveT, HND.out]; simp)
    clear hf hn
    go_enter Try.func58, Try.ntmps58
    go_wp2_with fail
    go_ret2
    exact ⟨by rw [HV.out]; first | rfl | (exact tup_ret (by simp) (by simp)), HB.out⟩
  · have HB := Lib.hid ((Below.refl W.heap.size W).alloc (Nat.le_refl _) (.cells #[.int .i64 3, .string ⟨#[]⟩, .int .i64 (pa : Int), .int .i64 (pb : Int)] 45))
    have HV : Hid (liveT l dead k d = (d && !tl dead (pb : Nat), d && !tl dead (pa : Nat))) := Lib.hid (by rw [liveT, HND.out]; simp)
    have hpa0 : (0 : Int) ≤ pa := by omega
    have hpan : (pa : Int) < n := by omega
    have hpb0 : (0 : Int) ≤ pb := by omega
    have hpbn : (pb : Int) < n := by omega
    have hv3 := up_cell HB.out (Nat.le_refl _) hv1
    have tda := up_cell HB.out (Nat.le_refl _) (hbd.get (by omega : pa < n))
    have tdb := up_cell HB.out (Nat.le_refl _) (hbd.get (by omega : pb < n))
    generalize tl dead (pa : Nat) = ya at tda HV
    generalize tl dead (pb : Nat) = yb at tdb HV
    clear hf hn hpa hpb
    cases d
    all_goals cases ya
    all_goals cases yb
    all_goals (
      go_enter Try.func58, Try.ntmps58
      go_wp2_with fail
      go_quiet (fail)
      go_wp2_with fail
      go_ret2
      exact ⟨by rw [HV.out]; first | rfl | (exact tup_ret (by simp) (by simp)), HB.out.trans ((below_draws _ _).mono HB.out.size)⟩)
  · have HB := Lib.hid ((Below.refl W.heap.size W).alloc (Nat.le_refl _) (.cells #[.int .i64 4, .string ⟨#[]⟩, .int .i64 (pa : Int), .int .i64 (pb : Int)] 45))
    have HV : Hid (liveT l dead k d = (d, d)) := Lib.hid (by rw [liveT, HND.out]; simp)
    clear hf hn hpa hpb
    go_enter Try.func58, Try.ntmps58
    go_wp2_with fail
    go_ret2
    exact ⟨by rw [HV.out]; first | rfl | (exact tup_ret (by simp) (by simp)), HB.out⟩
  · have HB := Lib.hid ((Below.refl W.heap.size W).alloc (Nat.le_refl _) (.cells #[.int .i64 5, .string ⟨#[]⟩, .int .i64 (pa : Int), .int .i64 0] 45))
    have HV : Hid (liveT l dead k d = (d, d)) := Lib.hid (by rw [liveT, HND.out]; simp)
    clear hf hn hpa
    go_enter Try.func58, Try.ntmps58
    go_wp2_with fail
    go_ret2
    exact ⟨by rw [HV.out]; first | rfl | (exact tup_ret (by simp) (by simp)), HB.out⟩
set_option maxHeartbeats 4000000 in
set_option maxRecDepth 10000 in
theorem next_tell {l : List Nd} (hf : formB l = true) {w : World} {v : Value} (hv : NR w v l) {mb eb nb neb : Nat} {em ends : List Bool} (hc : w.cell? ⟨mb, 0, none⟩ = some v) (he : BoolsAt w ⟨mb, 1, none⟩ eb l.length em) (hnx : BoolsAt w ⟨nb, 0, none⟩ neb l.length ends) : DownC 50 #[.pointer (some ⟨mb, 0, none⟩), .pointer (some ⟨nb, 0, none⟩)] w l.length (nextT l em ends) := by
  intro k d W hk hb
  obtain ⟨a, c, rfl, h2, h3, h4⟩ := (hv.th hb (Nat.le_refl _)).at
  obtain ⟨x, hx⟩ : ∃ x, l[k]? = some x := ⟨_, List.getElem?_eq_getElem hk⟩
  obtain ⟨g, o, rfl, k1, k2, k3, k4⟩ := h4 k x hx
  have hnd := nd_at hx
  have hcase := nd_cases hf hx
  have hc1 := up_cell hb (Nat.le_refl _) hc
  have hbe := he.below hb
  have hv1 := hbe.var
  have hbn := hnx.below hb
  have hv2 := hbn.var
  clear hc he hnx
  obtain ⟨n, hn⟩ : ∃ n, n = l.length := ⟨_, rfl⟩
  rw [← hn] at hk hc1 hv1 hbe hv2 hbn
  have hi0 : (0 : Int) ≤ k := by omega
  have hi1 : (k : Int) < n := by omega
  have HND := Lib.hid hnd
  clear hv h2 h3 h4 hx hnd
  rcases hcase with rfl | rfl | ⟨s, rfl⟩ | ⟨pa, pb, hpa, hpb, rfl⟩ | ⟨pa, pb, hpa, hpb, rfl⟩ | ⟨pa, hpa, rfl⟩
  · have HB := Lib.hid ((Below.refl W.heap.size W).alloc (Nat.le_refl _) (.cells #[.int .i64 0, .string ⟨#[]⟩, .int .i64 0, .int .i64 0] 45))
    have HV : Hid (nextT l em ends k d = (d, d)) := Lib.hid (by rw [nextT, HND.out]; simp)
    clear hf hn
    go_enter Try.func50, Try.ntmps50
    go_wp2_with fail
    go_ret2
    exact ⟨by rw [HV.out]; first | rfl | (exact tup_ret (by simp) (by simp)), HB.out⟩
  · have HB := Lib.hid ((Below.refl W.heap.size W).alloc (Nat.le_refl _) (.cells #[.int .i64 1, .string ⟨#[]⟩, .int .i64 0, .int .i64 0] 45))
    have HV : Hid (nextT l em ends k d = (d, d)) := Lib.hid (by rw [nextT, HND.out]; simp)
    clear hf hn
    go_enter Try.func50, Try.ntmps50
    go_wp2_with fail
    go_ret2
    exact ⟨by rw [HV.out]; first | rfl | (exact tup_ret (by simp) (by simp)), HB.out⟩
  · have HB := Lib.hid ((Below.refl W.heap.size W).alloc (Nat.le_refl _) (.cells #[.int .i64 2, .string ⟨s.toArray⟩, .int .i64 0, .int .i64 0] 45))
    have HV : Hid (nextT l em ends k d = (d, d)) := Lib.hid (by rw [nextT, HND.out]; simp)
    clear hf hn
    go_enter Try.func50, Try.ntmps50
    go_wp2_with fail
    go_ret2
    exact ⟨by rw [HV.out]; first | rfl | (exact tup_ret (by simp) (by simp)), HB.out⟩
  · have HB := Lib.hid ((Below.refl W.heap.size W).alloc (Nat.le_refl _) (.cells #[.int .i64 3, .string ⟨#[]⟩, .int .i64 (pa : Int), .int .i64 (pb : Int)] 45))
    have HV : Hid (nextT l em ends k d = (d, tl ends (pa : Nat) || (d && tl em (pa : Nat)))) := Lib.hid (by rw [nextT, HND.out]; simp)
    have hpa0 : (0 : Int) ≤ pa := by omega
    have hpan : (pa : Int) < n := by omega
    have hpb0 : (0 : Int) ≤ pb := by omega
    have hpbn : (pb : Int) < n := by omega
    have hv3 := up_cell HB.out (Nat.le_refl _) hv1
    have hv4 := up_cell HB.out (Nat.le_refl _) hv2
    have tna := up_cell HB.out (Nat.le_refl _) (hbn.get (by omega : pa < n))
    have tea := up_cell HB.out (Nat.le_refl _) (hbe.get (by omega : pa < n))
    generalize tl ends (pa : Nat) = ya at tna HV
    generalize tl em (pa : Nat) = ye at tea HV
    clear hf hn hpa hpb
    cases d
    all_goals cases ya
    all_goals cases ye
    all_goals (
      go_enter Try.func50, Try.ntmps50
      go_wp2_with fail
      go_quiet (fail)
      go_wp2_with fail
      go_ret2
      exact ⟨by rw [HV.out]; first | rfl | (exact tup_ret (by simp) (by simp)), HB.out.trans ((below_draws _ _).mono HB.out.size)⟩)
  · have HB := Lib.hid ((Below.refl W.heap.size W).alloc (Nat.le_refl _) (.cells #[.int .i64 4, .string ⟨#[]⟩, .int .i64 (pa : Int), .int .i64 (pb : Int)] 45))
    have HV : Hid (nextT l em ends k d = (d, d)) := Lib.hid (by rw [nextT, HND.out]; simp)
    clear hf hn hpa hpb
    go_enter Try.func50, Try.ntmps50
    go_wp2_with fail
    go_ret2
    exact ⟨by rw [HV.out]; first | rfl | (exact tup_ret (by simp) (by simp)), HB.out⟩
  · have HB := Lib.hid ((Below.refl W.heap.size W).alloc (Nat.le_refl _) (.cells #[.int .i64 5, .string ⟨#[]⟩, .int .i64 (pa : Int), .int .i64 0] 45))
    have HV : Hid (nextT l em ends k d = (d || tl ends (pa : Nat), false)) := Lib.hid (by rw [nextT, HND.out]; simp)
    have hpa0 : (0 : Int) ≤ pa := by omega
    have hpan : (pa : Int) < n := by omega
    have hv3 := up_cell HB.out (Nat.le_refl _) hv1
    have hv4 := up_cell HB.out (Nat.le_refl _) hv2
    have tna := up_cell HB.out (Nat.le_refl _) (hbn.get (by omega : pa < n))
    generalize tl ends (pa : Nat) = ya at tna HV
    clear hf hn hpa
    cases d
    all_goals cases ya
    all_goals (
      go_enter Try.func50, Try.ntmps50
      go_wp2_with fail
      go_ret2
      exact ⟨by rw [HV.out]; first | rfl | (exact tup_ret (by simp) (by simp)), HB.out⟩)
end Go.Proofs.Ytnaimmhdpjggmaa.U
