/- QueueTurns: its plain part, and two queues beside each other. -/
import Derived.Test.YtodjfebceljjgaaPl0
import Derived.Test.YtodjfebceljjgaaSo0
namespace Go.Proofs.Ytodjfebceljjgaa.U
open Go.RowKit Q1

/-- What is taken, the first one first, and what is left, of what was put, by an order. -/
structure HalfG (g : Int × Int → Int × Int → Int) (l : List Int) (n : Nat) (tk m : List Th) : Prop where
  perm : (tk ++ m).Perm (thR l n)
  sorted : tk.Pairwise fun a b => ltT g b a = false
  last : ∀ z ∈ tk, ∀ y ∈ m, ltT g y z = false
theorem HalfG.start (g : Int × Int → Int × Int → Int) (l : List Int) (n : Nat) : HalfG g l n [] (thR l n) := ⟨by simp, List.Pairwise.nil, fun z h => by cases h⟩
theorem HalfG.next {g : Int × Int → Int × Int → Int} {l : List Int} {n : Nat} {tk m r : List Th} {x : Th} (h : HalfG g l n tk m) (hp : m.Perm (x :: r)) (hx : x ∈ m) (hmin : ∀ y ∈ m, ltT g y x = false) : HalfG g l n (tk ++ [x]) r := by
  refine ⟨?_, List.pairwise_append.2 ⟨h.sorted, List.pairwise_singleton _ _, fun z hz y hy => ?_⟩, fun z hz y hy => ?_⟩
  · rw [List.append_assoc]
    exact ((List.perm_append_left_iff tk).2 hp).symm.trans h.perm
  · rw [List.mem_singleton.1 hy]
    exact h.last z hz x hx
  · have hym : y ∈ m := hp.mem_iff.2 (by simp [hy])
    rcases List.mem_append.1 hz with hz | hz
    · exact h.last z hz y hym
    · rw [List.mem_singleton.1 hz]
      exact hmin y hym
theorem HalfG.len {g : Int × Int → Int × Int → Int} {l : List Int} {n : Nat} {tk m : List Th} (h : HalfG g l n tk m) : tk.length + m.length = n := by
  have := h.perm.length_eq
  rw [List.length_append, thR_len] at this
  exact this
/-- Where ranks are unlike, the one order is the other one turned round. -/
theorem turn_round {l : List Int} {n : Nat} {ta tb : List Th} (ha : HalfG gUp l n ta []) (hb : HalfG gDn l n tb []) (hd : ∀ i j : Nat, i < j → j < n → l.getD i 0 ≠ l.getD j 0) : ta = tb.reverse := by
  have pa : ta.Perm (thR l n) := by simpa using ha.perm
  have pb : tb.Perm (thR l n) := by simpa using hb.perm
  have sa : ta.Pairwise fun a b => a.1 ≤ b.1 := ha.sorted.imp fun {a b} h => by
    rw [bF, lt_up] at h
    omega
  have sb : tb.reverse.Pairwise fun a b => a.1 ≤ b.1 := by
    rw [List.pairwise_reverse]
    exact hb.sorted.imp fun {a b} h => by
      rw [bF, lt_dn] at h
      omega
  refine List.Perm.eq_of_pairwise (le := fun a b => a.1 ≤ b.1) (fun a b h1 h2 h3 h4 => ?_) sa sb (pa.trans (pb.symm.trans (List.reverse_perm tb).symm))
  obtain ⟨i, hi, rfl⟩ := thR_mem l n a (pa.mem_iff.1 h1)
  obtain ⟨j, hj, rfl⟩ := thR_mem l n b (pb.mem_iff.1 (List.mem_reverse.1 h2))
  simp only [] at h3 h4
  rcases Nat.lt_trichotomy i j with e | e | e
  · exact absurd (by omega) (hd i j e hj)
  · rw [e]
  · exact absurd (by omega) (hd j i e hi)
/-- A queue is kept where another one is asked. -/
theorem QS.other {g : Int × Int → Int × Int → Int} {f c d : Nat} {W0 wr w2 : World} {base qb qb' p : Nat} {m : List Th} {v v' : Value} {E' : En Th} {base' p' : Nat} {m' : List Th} (h : QS (E1 g c d W0) wr base qb v m p) (hcl : Clo f c d W0) (h' : QS E' wr base' qb' v' m' p') (hne : qb ≠ qb') (hap : ∀ o, v.ownBlock = some o → v'.ownBlock ≠ some o) (hk : Kept (SQ qb' v') wr w2) : QS (E1 g c d W0) w2 base qb v m p := by
  refine QS.keep h hk (fun e => ?_) (fun o ho e => ?_) (fun q hq e => ?_)
  · rcases e with e | e
    · exact hne e
    · obtain ⟨_, _, cur, k1⟩ := Q1.QS.own h' e
      obtain ⟨_, _, cur2, k2⟩ := Q1.QS.bx h
      rw [k1] at k2; simp at k2
  · rcases e with e | e
    · have e : o = qb' := e
      obtain ⟨_, _, cur, k1⟩ := Q1.QS.own h ho
      obtain ⟨_, _, cur2, k2⟩ := Q1.QS.bx h'
      rw [e, k2] at k1; simp at k1
    · exact hap o ho e
  · obtain ⟨xs, q1, _⟩ := h
    have hq' := q1.snap q hq
    have ht : ∃ cur, wr.heap[q]? = some (.cells cur 29 (0, 0)) := by
      rcases hq with e2 | e2
      · exact ⟨_, hq'.trans (by rw [e2]; exact hcl.hc)⟩
      · exact ⟨_, hq'.trans (by rw [e2]; exact hcl.hd)⟩
    obtain ⟨cur, ht⟩ := ht
    rcases e with e | e
    · have e : q = qb' := e
      obtain ⟨_, _, cur2, k2⟩ := Q1.QS.bx h'
      rw [← e, ht] at k2; simp at k2
    · obtain ⟨_, _, cur2, k2⟩ := Q1.QS.own h' e
      rw [ht] at k2; simp at k2
end Go.Proofs.Ytodjfebceljjgaa.U
