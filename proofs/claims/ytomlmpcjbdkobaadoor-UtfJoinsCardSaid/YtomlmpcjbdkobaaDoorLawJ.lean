/- The walk of the law UtfJoins: the law's Go text returns true at every two rows of bytes. -/
import Derived.Test.YtomlmpcjbdkobaaDoorAwake
import Derived.Test.YtomlmpcjbdkobaaDoorOpen
import Derived.Laws.AppendOwnNone
namespace Go.Proofs.YtomlmpcjbdkobaaDoor.U
open Go.RowKit

theorem one_ints (k : IntKind) (l : List Int) : ∀ u ∈ l.map (Value.int k), u.oneCell' = true := by
  intro u hu
  simp only [List.mem_map] at hu
  obtain ⟨x, _, rfl⟩ := hu
  rfl

/-- append of a whole slice that came in, nil or not, to a row of the call's own. -/
theorem wpList_append_row {P : Program} {w : World} {ops : Array Oper} {rest : List Oper} {o : Oper} {a : Act} {Q : Exit → Act → World → Prop} (hgd : o.guard = none) (s x : Operand) (t : TypeId)
    (ho : o.op = .call { callee := .builtin .append, args := #[s, x], argTypes := #[t, t] })
    (base : Nat) (e : TypeId) (i : TypeInfo) (z : Value) (bytes : Nat) (ht : P.underlying t = some (.slice e)) (hi : P.info? e = some i) (hz : i.zero = some z)
    (hsize : i.size = 1) (hby : i.bytes = bytes) (hzs : z.cells.size = 1)
    (v : Value) (n : Nat) (xs : List Value) (hs : a.eval s = v) (hown : w.ownsRow base e 1 v n xs)
    (k : IntKind) (ad : Option Addr) (m c : Nat) (zs : List Int) (hx : a.eval x = .slice ad m c) (hrow : IsRow k w ad m c zs)
    (h63 : n + m ≤ maxLen) (hbytes : (n + m) * bytes ≤ 140737488355328) (hbase : base ≤ w.heap.size)
    (h : ∀ v' w', w'.ownsRow base e 1 v' (n + m) (xs ++ (zs.take m).map (Value.int k)) → Below base w w' → wpList P ops Q rest (a.put o.dst v') w') : wpList P ops Q (o :: rest) a w := by
  rcases hrow with ⟨rfl, rfl, rfl, rfl⟩ | ⟨y, rfl, hl, hm, hzl, hcell, hwz⟩
  · refine wpList_append_own_none hgd s x t ho base e i 1 ht hi v n xs hs hown hx ?_
    exact h v w (by simpa using hown) (Below.refl _ _)
  · refine wpList_append_own w hgd s x t ho base e i z 1 bytes ht hi hz hsize hby hzs (by decide) v n xs hs hown y m c ((zs.take m).map (Value.int k)) hx (by simp; omega) ?_ (one_ints k _) h63 hbytes hbase ?_
    · intro j u hj
      rw [List.getElem?_map] at hj
      have hjl : j < (zs.take m).length := by
        rcases Nat.lt_or_ge j (zs.take m).length with h1 | h1
        · exact h1
        · rw [List.getElem?_eq_none h1] at hj; cases hj
      have hjm : j < m := by simp at hjl; omega
      have h2 := hcell j (by omega)
      rw [List.getElem?_take_of_lt hjm, List.getElem?_eq_getElem (by omega)] at hj
      simp only [Option.map_some, Option.some.injEq] at hj
      rw [h2, ← hj]
      simp [List.getElem?_eq_getElem (show j < zs.length by omega)]
    · intro v' w' hown' hgrow _
      exact h v' w' hown' ((Below.refl _ _).grown hgrow hbase (fun k e => (hown.lt k e).1))

theorem IsRow.below {k : IntKind} {w w' : World} {a : Option Addr} {len cap : Nat} {z : List Int} {B : Nat} (h : IsRow k w a len cap z) (hb : Below B w w') (hB : w.heap.size ≤ B) : IsRow k w' a len cap z := by
  rcases h with h | ⟨x, rfl, hl, hm, hz, hcell, hwz⟩
  · exact .inl h
  · refine .inr ⟨x, rfl, hl, hm, hz, fun i hi => ?_, hwz⟩
    have h1 := hcell i hi
    exact (hb.cell (Nat.lt_of_lt_of_le (block_lt_of_cell h1) hB)).trans h1

set_option maxHeartbeats 1000000 in
theorem joins_far (a b : Option Addr) (la ca lb cb : Nat) (w : World) (hl : Lay w) (h : 100 < la ∨ 100 < lb) : Calls Tryd.prog 6 #[.slice a la ca, .slice b lb cb] w fun e w' => e = .returned (.bool true) ∧ Below w.heap.size w w' := by
  have HL := Lib.hid hl
  clear hl
  by_cases h1 : 100 < la
  · clear h
    go_enter Tryd.func6, Tryd.ntmps6
    go_wp2_with fail
    refine (awake_any _ HL.out).mono ?_
    rintro e w1 ⟨rfl, hb1⟩
    go_wp2
    go_ret
    exact ⟨rfl, hb1⟩
  · have h2 : 100 < lb := by omega
    have h3 : decide ((100 : Int) < la) = false := by simp; omega
    clear h h1
    go_enter Tryd.func6, Tryd.ntmps6
    go_wp2_with fail
    refine (awake_any _ HL.out).mono ?_
    rintro e w1 ⟨rfl, hb1⟩
    go_wp2
    go_ret
    exact ⟨rfl, hb1⟩

/-- A whole row of characters, and what stands behind it. -/
theorem decC_append {l m : List Int} {x : Int × Nat} (h : decC l = some x) : decC (l ++ m) = some x := by
  obtain ⟨r, n⟩ := x
  cases l with
  | nil => cases h
  | cons c t =>
    have hs := decC_some h
    rw [decC_cons] at h
    rw [List.cons_append, decC_cons]
    split at h
    · cases h
    · rename_i hn
      rw [if_neg (by simp; omega)]
      have e : (t ++ m).take (begN c - 1) = t.take (begN c - 1) := by
        rw [List.take_append_of_le_length (by omega)]
      rw [e]
      exact h
theorem chkC_append {l m : List Int} (h : chkC l = l.length) : chkC (l ++ m) = l.length + chkC m := by
  obtain ⟨f, hf⟩ : ∃ f, l.length ≤ f := ⟨_, Nat.le_refl _⟩
  induction f generalizing l with
  | zero =>
    obtain rfl : l = [] := List.eq_nil_of_length_eq_zero (by omega)
    simp
  | succ f ih =>
    cases l with
    | nil => simp
    | cons c t =>
      cases hd : decC (c :: t) with
      | none => rw [chkC_none hd] at h; simp at h
      | some x =>
        obtain ⟨r, n⟩ := x
        have hs := decC_some hd
        have h1 := chkC_some hd
        have h2 := chkC_some (decC_append (m := m) hd)
        have h3 : ((c :: t) ++ m).drop n = (c :: t).drop n ++ m := List.drop_append_of_le_length hs.2.2.1
        have h4 : ((c :: t).drop n).length = (c :: t).length - n := List.length_drop
        rw [h2, h3, ih (l := (c :: t).drop n) (by rw [h4]; omega) (by rw [h4]; omega), h4]
        have := hs.2.2.1
        omega

set_option maxHeartbeats 1000000 in
theorem joins_near (a b : Option Addr) (la ca lb cb : Nat) (za zb : List Int) (w : World) (hl : Lay w) (ha : IsRow .u8 w a la ca za) (hb : IsRow .u8 w b lb cb zb) (h1 : la ≤ 100) (h2 : lb ≤ 100) :
    Calls Tryd.prog 6 #[.slice a la ca, .slice b lb cb] w fun e w' => e = .returned (.bool true) ∧ Below w.heap.size w w' := by
  have HL := Lib.hid hl
  have HA := Lib.hid ha
  have HB := Lib.hid hb
  obtain ⟨i0, hi, hz0, hz1, hz2⟩ := info_parts info5
  have d1 : decide ((100 : Int) < la) = false := by simp; omega
  have d2 : decide ((100 : Int) < lb) = false := by simp; omega
  clear hl ha hb
  go_enter Tryd.func6, Tryd.ntmps6
  go_wp2_with (first | (at_builtin; refine wpList_append_row rfl (.tmp 21) (.tmp 22) 24 rfl w.heap.size 5 i0 (.int .u8 0) 1 Tryd.underlying24 hi hz0 hz1 hz2 rfl _ 0 [] rfl (World.ownsRow_nil _ _ _ _) .u8 a la ca za rfl HA.out (by unfold maxLen; omega) (by omega) (Nat.le_refl _) ?_; intro v1 w1 hown1 hb1; have HOWN1 := Lib.hid hown1; have HB1 := Lib.hid hb1; clear hown1 hb1) | (at_builtin; refine wpList_append_row rfl (.tmp 24) (.tmp 25) 24 rfl w.heap.size 5 i0 (.int .u8 0) 1 Tryd.underlying24 hi hz0 hz1 hz2 rfl _ _ _ rfl HOWN1.out .u8 b lb cb zb rfl (HB.out.below HB1.out (Nat.le_refl _)) (by unfold maxLen; omega) (by omega) HB1.out.size ?_; intro v2 w2 hown2 hb2; have HOWN2 := Lib.hid hown2; have HB2 := Lib.hid hb2; clear hown2 hb2) | fail)
  have hb2 : Below w.heap.size w w2 := HB1.out.trans HB2.out
  have HE2 := Lib.hid hb2
  clear hb2
  have hown2 : w2.ownsRow w.heap.size 5 1 v2 (la + lb) ((za.take la ++ zb.take lb).map (Value.int .u8)) := by have := HOWN2.out; simpa using this
  have hby : ∀ z ∈ za.take la ++ zb.take lb, 0 ≤ z ∧ z ≤ 255 := by
    intro z hz
    rcases List.mem_append.1 hz with h | h
    · exact bounds_u8 (HA.out.wfs z h)
    · exact bounds_u8 (HB.out.wfs z h)
  obtain ⟨a2, c2, rfl, hbyt⟩ := owned_byt hown2 hby (by omega)
  have HBY := Lib.hid hbyt
  clear hown2 hby hbyt
  have HLA := Lib.hid HA.out.lens.1
  have HLB := Lib.hid HB.out.lens.1
  refine (check_any a la ca (za.take la) _ (HL.out.below HE2.out HL.out.size) ((HA.out.byt (by omega)).below HE2.out (Nat.le_refl _))).mono ?_
  rintro e w3 ⟨rfl, hb3⟩
  have HE3 := Lib.hid (th HE2.out (Nat.le_refl _) hb3)
  have HBY3 := Lib.hid (HBY.out.below hb3 (Nat.le_refl _))
  clear hb3
  go_wp2_with fail
  refine (check_any b lb cb (zb.take lb) _ (HL.out.below HE3.out HL.out.size) ((HB.out.byt (by omega)).below HE3.out (Nat.le_refl _))).mono ?_
  rintro e w4 ⟨rfl, hb4⟩
  have HE4 := Lib.hid (th HE3.out (Nat.le_refl _) hb4)
  have HBY4 := Lib.hid (HBY3.out.below hb4 (Nat.le_refl _))
  clear hb4
  go_wp2_with fail
  refine (check_any a2 (la + lb) c2 _ _ (HL.out.below HE4.out HL.out.size) HBY4.out).mono ?_
  rintro e w5 ⟨rfl, hb5⟩
  have HE5 := Lib.hid (th HE4.out (Nat.le_refl _) hb5)
  have HL5 := Lib.hid (HL.out.below HE5.out HL.out.size)
  clear hb5
  have hle := chkC_le (za.take la)
  have hlb := chkC_le (zb.take lb)
  rw [HLA.out] at hle
  rw [HLB.out] at hlb
  by_cases hw : chkC (za.take la) = la
  · have hj := chkC_append (m := zb.take lb) (show chkC (za.take la) = (za.take la).length by rw [HLA.out]; exact hw)
    rw [HLA.out] at hj
    have he1 : chkE (za.take la) = 0 := by unfold chkE; rw [HLA.out, if_neg (by omega)]
    have he2 : chkE (za.take la ++ zb.take lb) = chkE (zb.take lb) := by
      unfold chkE
      rw [hj, List.length_append, HLA.out, HLB.out]
      by_cases hc : chkC (zb.take lb) < lb
      · rw [if_pos (by omega), if_pos hc]
      · rw [if_neg (by omega), if_neg hc]
    rw [hw, hj, he1, he2]
    obtain ⟨q, hq⟩ : ∃ q, chkE (zb.take lb) = q := ⟨_, rfl⟩
    obtain ⟨c, hc⟩ : ∃ c, chkC (zb.take lb) = c := ⟨_, rfl⟩
    rw [hq, hc]
    rw [hc] at hlb
    have hqq : (q == q) = true := by simp
    have hcc : ((la + c : Nat) : Int) = (la : Int) + c := by omega
    rw [hcc]
    have hcb : ((la : Int) + c == la + c) = true := by simp
    clear hw hj he1 he2 hq hc hcc hle
    go_wp2_with fail
    refine (awake_any _ HL5.out).mono ?_
    rintro e w6 ⟨rfl, hb6⟩
    go_wp2
    go_ret
    exact ⟨rfl, th HE5.out (Nat.le_refl _) hb6⟩
  · have he1 : chkE (za.take la) = 10 := by unfold chkE; rw [HLA.out, if_pos (by omega)]
    rw [he1]
    obtain ⟨c, hc⟩ : ∃ c, chkC (za.take la) = c := ⟨_, rfl⟩
    rw [hc]
    rw [hc] at hle
    clear hw he1 hc
    go_wp2_with fail
    refine (awake_any _ HL5.out).mono ?_
    rintro e w6 ⟨rfl, hb6⟩
    go_wp2
    go_ret
    exact ⟨rfl, th HE5.out (Nat.le_refl _) hb6⟩
end Go.Proofs.YtomlmpcjbdkobaaDoor.U
