/- The law's own small functions of layer 3: neat, Few. -/
import Derived.Test.YtihijgghcecpmaaGreatDoorLp0
namespace Go.Proofs.YtihijgghcecpmaaGreatDoor.U
open Go.RowKit Go.Shelf

/-- The same as neatL, with the kind of the piece ahead. -/
def okN (p : Option Int) (t : Tok) : Bool := plainT t && !(decide (t.kind = 4) && decide (p = some 4))
def neatA : Option Int → List Tok → Bool
  | _, [] => true
  | p, t :: r => okN p t && neatA (some t.kind) r
theorem neatA_eq : ∀ (ts : List Tok) (p : Option Int), neatA p ts = ((match ts with | [] => true | u :: _ => !(decide (u.kind = 4) && decide (p = some 4))) && neatL ts) := by
  intro ts
  induction ts with
  | nil => intro p; rfl
  | cons t r ih =>
    intro p
    simp only [neatA, neatL, okN, ih]
    cases r with
    | nil => simp [Bool.and_comm, Bool.and_left_comm]
    | cons u q =>
      simp only
      have e : (decide (u.kind = 4) && decide (some t.kind = some 4)) = (decide (t.kind = 4) && decide (u.kind = 4)) := by
        rw [Bool.and_comm]
        simp
      rw [e]
      generalize (decide (t.kind = 4) && decide (u.kind = 4)) = x
      generalize (decide (t.kind = 4) && decide (p = some 4)) = y
      generalize plainT t = z
      generalize neatL (u :: q) = v
      cases x <;> cases y <;> cases z <;> cases v <;> rfl
theorem neatA_none (ts : List Tok) : neatL ts = neatA none ts := by
  rw [neatA_eq]
  cases ts with
  | nil => rfl
  | cons t r => simp
theorem neatA_step {ts : List Tok} {k : Nat} {t : Tok} (p : Option Int) (h : ts[k]? = some t) : neatA p (ts.drop k) = (okN p t && neatA (some t.kind) (ts.drop (k + 1))) := by
  obtain ⟨h1, h2⟩ := List.getElem?_eq_some_iff.1 h
  rw [List.drop_eq_getElem_cons h1, h2]
  rfl

set_option maxHeartbeats 8000000 in
set_option maxRecDepth 20000 in
theorem neat_any (a : Option Addr) (cap n : Nat) (ts : List Tok) (w : World) (hn : ts.length = n) (hv : TokAt w (.slice a n cap) ts) (hl : n ≤ 2000000) :
    Calls Tryz.prog 17 #[.slice a n cap] w fun e w' => e = .returned (.bool (neatL ts)) ∧ Below w.heap.size w w' := by
  obtain ⟨g, off, hag, hc⟩ := tok_get hn hv
  have HAG := Lib.hid hag
  have HC := Lib.hid hc
  have HN := Lib.hid hn
  clear hag hc hv hn
  go_enter Tryz.func17, Tryz.ntmps17
  go_wp2_with fail
  go_loopw [3] (fun i wr => ∃ (k : Nat) (p : Option Int), k ≤ n ∧ i = .int .i64 k ∧ Hid (neatL ts = neatA p (ts.drop k)) ∧ Hid ((k = 0 ∧ p = none) ∨ (∃ j q, k = j + 1 ∧ p = some q ∧ w.cell? ⟨g, off + j * 5, none⟩ = some (.int .i64 q))) ∧ Hid (Below w.heap.size w wr)) (fun i _ => n - (intOf i).toNat)
  case atStart => exact ⟨0, none, by omega, rfl, Lib.hid (neatA_none ts), Lib.hid (.inl ⟨rfl, rfl⟩), Lib.hid (Below.refl _ _)⟩
  case round =>
    obtain ⟨k, p, hk, rfl, HE, HP, HB⟩ := hrel
    by_cases hlt : k < n
    · obtain rfl := HAG.out (by omega)
      obtain ⟨t, ht⟩ : ∃ t, ts[k]? = some t := ⟨_, List.getElem?_eq_getElem (by rw [HN.out]; omega)⟩
      obtain ⟨x1, y1, p0, p1, p2, p3, p4, _⟩ := HC.out k t ht
      have HST := Lib.hid (neatA_step p ht)
      have HNX : Hid (w.cell? ⟨g, off + k * 5, none⟩ = some (.int .i64 t.kind)) := Lib.hid p0
      clear ht
      obtain ⟨tk, tn, tt, ta, te⟩ := t
      simp only at p0 p1 p2 p3 p4
      obtain ⟨nb, hnb⟩ : ∃ y : ByteArray, y = ⟨tn.toArray⟩ := ⟨_, rfl⟩
      obtain ⟨tb, htb⟩ : ∃ y : ByteArray, y = ⟨tt.toArray⟩ := ⟨_, rfl⟩
      have hnl : nb.toList.isEmpty = decide (tn = []) := by
        have : nb.toList = tn := by rw [ByteArray.toList_eq, hnb]
        rw [this]; cases tn <;> simp
      have htl : tb.toList.isEmpty = decide (tt = []) := by
        have : tb.toList = tt := by rw [ByteArray.toList_eq, htb]
        rw [this]; cases tt <;> simp
      rw [← hnb] at p1
      rw [← htb] at p2
      have hal : decide ((0 : Int) < (ta.length : Int)) = !decide (ta = []) := by cases ta <;> simp
      clear hnb htb
      have up : ∀ {p : Addr} {u : Value}, w.cell? p = some u → wr.cell? p = some u := fun h => (HB.out.cell (block_lt_of_cell h)).trans h
      have q0 := up p0
      have q1 := up p1
      have q2 := up p2
      have q3 := up p3
      have q4 := up p4
      obtain ⟨w1, hw1⟩ : ∃ w1, w1 = wr.alloc (.cells #[.int .i64 tk, .string nb, .string tb, .slice x1 ta.length y1, .bool te] 40) := ⟨_, rfl⟩
      have HB1 : Hid (Below w.heap.size w w1) := Lib.hid (by rw [hw1]; exact al HB.out (Nat.le_refl _) _)
      have hbx : BoxK wr.heap.size tk nb tb (.slice x1 ta.length y1) te w1 := by rw [hw1]; exact BoxK.made _ _ _ _ _ _
      obtain ⟨c0, c1, c2, c3, c4, _⟩ := hbx.at
      have HPV : Hid (∀ j q, k = j + 1 → p = some q → w.cell? ⟨g, off + j * 5, none⟩ = some (.int .i64 q) → w1.cell? ⟨g, off + j * 5, none⟩ = some (.int .i64 q)) := Lib.hid (fun j q _ _ h => (HB1.out.cell (block_lt_of_cell h)).trans h)
      subst hw1
      have hi0 : (0 : Int) ≤ k := by omega
      have hi1 : (k : Int) < n := by omega
      clear p0 p1 p2 p3 p4 hbx up
      generalize ta.length = tal at *
      by_cases h2 : tk = 2
      · skip
        subst h2
        by_cases hx : tt = []
        · have htl2 : tb.toList.isEmpty = true := by rw [htl]; simp [hx]
          clear htl
          have HV : Hid (okN p ⟨2, tn, tt, ta, te⟩ = true) := Lib.hid (by unfold okN plainT; simp_all)
          try clear h2
          try clear h3
          try clear h4
          try clear hq4
          go_wp2
          exact ⟨⟨k + 1, some 2, by omega, by go_num, Lib.hid (by rw [HE.out, HST.out, HV.out]; rfl), Lib.hid (.inr ⟨k, 2, rfl, rfl, HNX.out⟩), HB1⟩, by simp [intOf]; omega⟩
        · have htl2 : tb.toList.isEmpty = false := by rw [htl]; simp [hx]
          clear htl
          have HV : Hid (okN p ⟨2, tn, tt, ta, te⟩ = false) := Lib.hid (by unfold okN plainT; simp_all)
          try clear h2
          try clear h3
          try clear h4
          try clear hq4
          go_wp2
          go_ret
          exact ⟨by rw [HE.out, HST.out, HV.out]; rfl, HB1.out⟩
      by_cases h3 : tk = 3
      · skip
        subst h3
        by_cases hx : tt = []
        · have htl2 : tb.toList.isEmpty = true := by rw [htl]; simp [hx]
          clear htl
          by_cases ha : ta = []
          · obtain rfl : tal = 0 := by simp [ha] at hal; omega
            clear hal
            cases te with
            | true =>
              have HV : Hid (okN p ⟨3, tn, tt, ta, true⟩ = false) := Lib.hid (by unfold okN plainT; simp_all)
              try clear h2
              try clear h3
              try clear h4
              try clear hq4
              go_wp2
              go_ret
              exact ⟨by rw [HE.out, HST.out, HV.out]; rfl, HB1.out⟩
            | false =>
              have HV : Hid (okN p ⟨3, tn, tt, ta, false⟩ = true) := Lib.hid (by unfold okN plainT; simp_all)
              try clear h2
              try clear h3
              try clear h4
              try clear hq4
              go_wp2
              exact ⟨⟨k + 1, some 3, by omega, by go_num, Lib.hid (by rw [HE.out, HST.out, HV.out]; rfl), Lib.hid (.inr ⟨k, 3, rfl, rfl, HNX.out⟩), HB1⟩, by simp [intOf]; omega⟩
          · have hal2 : (0 : Int) < (tal : Int) := by simpa [ha] using hal
            clear hal
            have HV : Hid (okN p ⟨3, tn, tt, ta, te⟩ = false) := Lib.hid (by unfold okN plainT; simp_all)
            try clear h2
            try clear h3
            try clear h4
            try clear hq4
            go_wp2
            go_ret
            exact ⟨by rw [HE.out, HST.out, HV.out]; rfl, HB1.out⟩
        · have htl2 : tb.toList.isEmpty = false := by rw [htl]; simp [hx]
          clear htl
          have HV : Hid (okN p ⟨3, tn, tt, ta, te⟩ = false) := Lib.hid (by unfold okN plainT; simp_all)
          try clear h2
          try clear h3
          try clear h4
          try clear hq4
          go_wp2
          go_ret
          exact ⟨by rw [HE.out, HST.out, HV.out]; rfl, HB1.out⟩
      by_cases h4 : tk = 4
      · skip
        subst h4
        by_cases hx : tt = []
        · have htl2 : tb.toList.isEmpty = true := by rw [htl]; simp [hx]
          clear htl
          have HV : Hid (okN p ⟨4, tn, tt, ta, te⟩ = false) := Lib.hid (by unfold okN plainT; simp_all)
          try clear h2
          try clear h3
          try clear h4
          try clear hq4
          go_wp2
          go_ret
          exact ⟨by rw [HE.out, HST.out, HV.out]; rfl, HB1.out⟩
        have htl2 : tb.toList.isEmpty = false := by rw [htl]; simp [hx]
        clear htl
        rcases HP.out with ⟨hk0, hp0⟩ | ⟨j, q, hk0, hp0, hq0⟩
        · have hk1 : decide ((0 : Int) < (k : Int)) = false := by simp; omega
          have hk2 : decide (0 < k) = false := by simp; omega
          clear hk0
          by_cases hy : tn = []
          · have hnl2 : nb.toList.isEmpty = true := by rw [hnl]; simp [hy]
            clear hnl
            by_cases ha : ta = []
            · obtain rfl : tal = 0 := by simp [ha] at hal; omega
              clear hal
              cases te with
              | true =>
                have HV : Hid (okN p ⟨4, tn, tt, ta, true⟩ = false) := Lib.hid (by unfold okN plainT; simp_all)
                try clear h2
                try clear h3
                try clear h4
                try clear hq4
                go_wp2
                go_ret
                exact ⟨by rw [HE.out, HST.out, HV.out]; rfl, HB1.out⟩
              | false =>
                have HV : Hid (okN p ⟨4, tn, tt, ta, false⟩ = true) := Lib.hid (by unfold okN plainT; simp_all)
                try clear h2
                try clear h3
                try clear h4
                try clear hq4
                go_wp2
                exact ⟨⟨k + 1, some 4, by omega, by go_num, Lib.hid (by rw [HE.out, HST.out, HV.out]; rfl), Lib.hid (.inr ⟨k, 4, rfl, rfl, HNX.out⟩), HB1⟩, by simp [intOf]; omega⟩
            · have hal2 : (0 : Int) < (tal : Int) := by simpa [ha] using hal
              clear hal
              have HV : Hid (okN p ⟨4, tn, tt, ta, te⟩ = false) := Lib.hid (by unfold okN plainT; simp_all)
              try clear h2
              try clear h3
              try clear h4
              try clear hq4
              go_wp2
              go_ret
              exact ⟨by rw [HE.out, HST.out, HV.out]; rfl, HB1.out⟩
          · have hnl2 : nb.toList.isEmpty = false := by rw [hnl]; simp [hy]
            clear hnl
            have HV : Hid (okN p ⟨4, tn, tt, ta, te⟩ = false) := Lib.hid (by unfold okN plainT; simp_all)
            try clear h2
            try clear h3
            try clear h4
            try clear hq4
            go_wp2
            go_ret
            exact ⟨by rw [HE.out, HST.out, HV.out]; rfl, HB1.out⟩
        · obtain rfl : j = k - 1 := by omega
          have hq := HPV.out (k - 1) q hk0 hp0 hq0
          have hk1 : (0 : Int) < (k : Int) := by omega
          have hj3 : (0 : Int) ≤ (k : Int) - 1 := by omega
          have hj4 : (k : Int) - 1 < (n : Int) := by omega
          clear hk0 hq0
          by_cases hq4 : q = 4
          · have hq5 : (q == 4) = true := by rw [hq4]; rfl
            have HV : Hid (okN p ⟨4, tn, tt, ta, te⟩ = false) := Lib.hid (by unfold okN plainT; simp_all)
            try clear h2
            try clear h3
            try clear h4
            try clear hq4
            go_wp2
            go_ret
            exact ⟨by rw [HE.out, HST.out, HV.out]; rfl, HB1.out⟩
          · have hq5 : (q == 4) = false := by rw [beq_eq_false_iff_ne]; exact hq4
            by_cases hy : tn = []
            · have hnl2 : nb.toList.isEmpty = true := by rw [hnl]; simp [hy]
              clear hnl
              by_cases ha : ta = []
              · obtain rfl : tal = 0 := by simp [ha] at hal; omega
                clear hal
                cases te with
                | true =>
                  have HV : Hid (okN p ⟨4, tn, tt, ta, true⟩ = false) := Lib.hid (by unfold okN plainT; simp_all)
                  try clear h2
                  try clear h3
                  try clear h4
                  try clear hq4
                  go_wp2
                  go_ret
                  exact ⟨by rw [HE.out, HST.out, HV.out]; rfl, HB1.out⟩
                | false =>
                  have HV : Hid (okN p ⟨4, tn, tt, ta, false⟩ = true) := Lib.hid (by unfold okN plainT; simp_all)
                  try clear h2
                  try clear h3
                  try clear h4
                  try clear hq4
                  go_wp2
                  exact ⟨⟨k + 1, some 4, by omega, by go_num, Lib.hid (by rw [HE.out, HST.out, HV.out]; rfl), Lib.hid (.inr ⟨k, 4, rfl, rfl, HNX.out⟩), HB1⟩, by simp [intOf]; omega⟩
              · have hal2 : (0 : Int) < (tal : Int) := by simpa [ha] using hal
                clear hal
                have HV : Hid (okN p ⟨4, tn, tt, ta, te⟩ = false) := Lib.hid (by unfold okN plainT; simp_all)
                try clear h2
                try clear h3
                try clear h4
                try clear hq4
                go_wp2
                go_ret
                exact ⟨by rw [HE.out, HST.out, HV.out]; rfl, HB1.out⟩
            · have hnl2 : nb.toList.isEmpty = false := by rw [hnl]; simp [hy]
              clear hnl
              have HV : Hid (okN p ⟨4, tn, tt, ta, te⟩ = false) := Lib.hid (by unfold okN plainT; simp_all)
              try clear h2
              try clear h3
              try clear h4
              try clear hq4
              go_wp2
              go_ret
              exact ⟨by rw [HE.out, HST.out, HV.out]; rfl, HB1.out⟩
      · skip
        have hn2 : (tk != 2) = true := by rw [bne_iff_ne]; assumption
        have hk2 : (tk == 2) = false := by rw [beq_eq_false_iff_ne]; assumption
        have hk3 : (tk == 3) = false := by rw [beq_eq_false_iff_ne]; assumption
        have hk4 : (tk == 4) = false := by rw [beq_eq_false_iff_ne]; assumption
        by_cases hy : tn = []
        · have hnl2 : nb.toList.isEmpty = true := by rw [hnl]; simp [hy]
          clear hnl
          by_cases ha : ta = []
          · obtain rfl : tal = 0 := by simp [ha] at hal; omega
            clear hal
            cases te with
            | true =>
              have HV : Hid (okN p ⟨tk, tn, tt, ta, true⟩ = false) := Lib.hid (by unfold okN plainT; simp_all)
              go_wp2
              go_ret
              exact ⟨by rw [HE.out, HST.out, HV.out]; rfl, HB1.out⟩
            | false =>
              have HV : Hid (okN p ⟨tk, tn, tt, ta, false⟩ = true) := Lib.hid (by unfold okN plainT; simp_all)
              go_wp2
              exact ⟨⟨k + 1, some tk, by omega, by go_num, Lib.hid (by rw [HE.out, HST.out, HV.out]; rfl), Lib.hid (.inr ⟨k, tk, rfl, rfl, HNX.out⟩), HB1⟩, by simp [intOf]; omega⟩
          · have hal2 : (0 : Int) < (tal : Int) := by simpa [ha] using hal
            clear hal
            have HV : Hid (okN p ⟨tk, tn, tt, ta, te⟩ = false) := Lib.hid (by unfold okN plainT; simp_all)
            go_wp2
            go_ret
            exact ⟨by rw [HE.out, HST.out, HV.out]; rfl, HB1.out⟩
        · have hnl2 : nb.toList.isEmpty = false := by rw [hnl]; simp [hy]
          clear hnl
          have HV : Hid (okN p ⟨tk, tn, tt, ta, te⟩ = false) := Lib.hid (by unfold okN plainT; simp_all)
          go_wp2
          go_ret
          exact ⟨by rw [HE.out, HST.out, HV.out]; rfl, HB1.out⟩
    · obtain rfl : k = n := by omega
      have HV : Hid (neatL ts = true) := Lib.hid (by rw [HE.out, List.drop_of_length_le (by rw [HN.out]; omega)]; rfl)
      go_wp2
      go_ret
      exact ⟨by rw [HV.out]; rfl, HB.out⟩
end Go.Proofs.YtihijgghcecpmaaGreatDoor.U
