/- The contract of down: what is told of each node by the one whose part it is. -/
import Derived.Test.YtnaimmhdpjggmaaMj
namespace Go.Proofs.Ytnaimmhdpjggmaa.U
open Go.RowKit

/-- That a closure tells of each node's parts by what is told of the node. -/
def DownC (g : Nat) (cap : Array Value) (w : World) (n : Nat) (tell : Nat → Bool → Bool × Bool) : Prop :=
  ∀ (k : Nat) (d : Bool) (W : World), k < n → Below w.heap.size w W →
    Calls Try.prog g (#[.int .i64 (k : Int), .bool d] ++ cap) W fun r w' => r = .returned (.tuple #[.bool (tell k d).1, .bool (tell k d).2]) ∧ Below W.heap.size W w'
/-- What the rounds of down know. -/
structure DwI (w wr : World) (l : List Nd) (last : Bool) (tell : Nat → Bool → Bool × Bool) (k : Nat) : Prop where
  row : WR wr w.heap.size 4 ((downA l last tell k).map eB)
  kept : Below w.heap.size w wr
theorem getD_get {D : List Bool} {i : Nat} (h : i < D.length) : D[i]? = some (D.getD i false) := by rw [List.getD_eq_getElem?_getD, List.getElem?_eq_getElem h]; rfl
theorem two_set {w : World} {g : Nat} {t : TypeId} {D : List Bool} {a b : Nat} {x y : Bool} (h : WR w g t (D.map eB)) :
    WR ((w.setCell ⟨g, a, none⟩ (.bool x)).setCell ⟨g, b, none⟩ (.bool y)) g t (((D.set a x).set b y).map eB) := by
  have h1 := (h.set a (eB x)).set b (eB y)
  rw [map_set, map_set] at h1
  exact h1
theorem two_set' {w : World} {g : Nat} {t : TypeId} {D : List Bool} {a b : Nat} {x y : Bool} (h : WR w g t (D.map eB)) (hab : a ≠ b) :
    WR ((w.setCell ⟨g, b, none⟩ (.bool y)).setCell ⟨g, a, none⟩ (.bool x)) g t (((D.set a x).set b y).map eB) := by
  have h1 := two_set (a := b) (b := a) (x := y) (y := x) h
  rwa [List.set_comm _ _ (fun e => hab e.symm)] at h1
theorem two_kept {w w' : World} {a b : Nat} {x y : Value} (h : Below w.heap.size w w') : Below w.heap.size w ((w'.setCell ⟨w.heap.size, a, none⟩ x).setCell ⟨w.heap.size, b, none⟩ y) :=
  (h.setCell (p := ⟨w.heap.size, a, none⟩) (Nat.le_refl _) x).setCell (p := ⟨w.heap.size, b, none⟩) (Nat.le_refl _) y
set_option maxHeartbeats 4000000 in
set_option maxRecDepth 20000 in
theorem down_any (g : Nat) (cap : Array Value) (v : Value) (l : List Nd) (last : Bool) (w : World) (tell : Nat → Bool → Bool × Bool) (h : NR w v l) (hl : l.length ≤ 1024) (hf : formB l = true)
    (hg : ∀ args w, (callFunc g args).run Try.prog w = .ok (.enter g args) w) (ht : DownC g cap w l.length tell) :
    Calls Try.prog 49 #[v, .bool last, .func (.func g) #[] cap] w fun e w' => e = .returned (.slice (some ⟨w.heap.size, 0, none⟩) l.length l.length) ∧ WR w' w.heap.size 4 ((downA l last tell l.length).map eB) ∧ Below w.heap.size w w' := by
  obtain ⟨a, c, rfl, h2, h3, h4⟩ := h.at
  have hpos := form_pos hf
  obtain ⟨m, hm⟩ : ∃ m, l.length = m + 1 := ⟨l.length - 1, by omega⟩
  obtain ⟨n, hn⟩ : ∃ n, n = l.length := ⟨_, rfl⟩
  rw [← hn] at hl ht hm ⊢
  have hmk := make_b n (by omega)
  have hm1 : (n : Int) - 1 = (m : Int) := by omega
  have hm2 : (m : Int) < n := by omega
  have hm3 : (0 : Int) ≤ m := by omega
  have hm4 : m < n := by omega
  have c0 : (w.alloc (.cells (List.replicate n (Value.bool false)).toArray 4)).cell? ⟨w.heap.size, m, none⟩ = some (.bool false) := (WR.new w 4 (List.replicate n (Value.bool false))).cell (by rw [List.getElem?_replicate, if_pos hm4])
  have f0 : (w.alloc (.cells (List.replicate n (Value.bool false)).toArray 4)).frozen? ⟨w.heap.size, m, none⟩ = false := (WR.new w 4 (List.replicate n (Value.bool false))).froz m
  have H0 : Hid (DwI w (w.alloc (.cells ((Array.replicate n (Value.bool false)).setIfInBounds m (Value.bool last)) 4)) l last tell 0) := Lib.hid
    ⟨by
      have e : (downA l last tell 0).map eB = (List.replicate n (Value.bool false)).set m (eB last) := by
        rw [downA, ← hn, show n - 1 = m by omega, ← map_set, ← rep_map]; rfl
      have e2 : (Array.replicate n (Value.bool false)).setIfInBounds m (Value.bool last) = ((downA l last tell 0).map eB).toArray := by
        rw [e, ← List.setIfInBounds_toArray]; simp [eB]
      rw [e2]
      exact WR.new _ _ _, (Below.refl _ w).alloc (Nat.le_refl _) _⟩
  have HT := Lib.hid ht
  have HN := Lib.hid hn
  have H4 := Lib.hid h4
  have HF := Lib.hid hf
  have HM := Lib.hid hm
  clear h h2 h3 h4 hn ht hf hpos hm
  go_enter Try.func49, Try.ntmps49
  go_wp2_with fail
  go_loopw [24] (fun i wr => ∃ k : Nat, i = .int .i64 k ∧ k ≤ n ∧ Hid (DwI w wr l last tell k)) (fun i _ => n - (intOf i).toNat)
  case atStart => exact ⟨0, rfl, by omega, H0⟩
  case round =>
    obtain ⟨k, rfl, hk, HI⟩ := hrel
    by_cases hlt : k < n
    · obtain ⟨at', hat⟩ : ∃ q : Nat, q = m - k := ⟨_, rfl⟩
      have hat1 : (m : Int) - (k : Int) = (at' : Int) := by have := HM.out; omega
      have hatn : at' < n := by have := HM.out; omega
      have hat0 : (0 : Int) ≤ at' := by omega
      have hati : (at' : Int) < n := by omega
      have hate : l.length - 1 - k = at' := by have := HM.out; have := HN.out; omega
      obtain ⟨x, hx⟩ : ∃ x, l[at']? = some x := ⟨_, List.getElem?_eq_getElem (by rw [← HN.out]; exact hatn)⟩
      obtain ⟨D, hD⟩ : ∃ D, D = downA l last tell k := ⟨_, rfl⟩
      have hDl : D.length = n := by rw [hD, downA_len, HN.out]
      obtain ⟨d, hd⟩ : ∃ d, d = D.getD at' false := ⟨_, rfl⟩
      have hrow := HI.out.row
      rw [← hD] at hrow
      have s0 : wr.cell? ⟨w.heap.size, at', none⟩ = some (.bool d) := hrow.cell (by rw [List.getElem?_map, getD_get (by rw [hDl]; exact hatn), ← hd]; rfl)
      have HK : Hid (downA l last tell (k + 1) = setP D x (tell at' d)) := Lib.hid (by rw [downA, hate, ← hD, nd_at hx, hd])
      have HC := Lib.hid (HT.out at' d wr hatn HI.out.kept)
      have HROW := Lib.hid hrow
      have HDL := Lib.hid hDl
      have HX := Lib.hid hx
      have hi0 : (0 : Int) ≤ k := by omega
      have hi1 : (k : Int) < n := by omega
      have hd1 : decide ((k : Int) < n) = true := by simp; omega
      have HLT := Lib.hid hlt
      obtain ⟨g1, o1, rfl, k1, k2, k3, k4⟩ := H4.out at' x hx
      generalize tell at' d = p at HC HK
      obtain ⟨p1, p2⟩ := p
      simp only at HC HK
      have HKEPT := Lib.hid HI.out.kept
      have KC := Lib.hid (show NC w g1 (o1 + at' * 4) x from ⟨k1, k2, k3, k4⟩)
      clear hat hatn hate hx hD hDl hd hrow hlt hk k1 k2 k3 k4
      go_wp2_with fail
      refine HC.out.mono ?_
      rintro e w2 ⟨rfl, hb⟩
      have HB2 := Lib.hid (th HKEPT.out (Nat.le_refl _) hb)
      have HR2 := Lib.hid (HROW.out.below hb)
      obtain ⟨k1, k2, k3, k4⟩ := KC.out.below HB2.out (Nat.le_refl _)
      have HSZ2 : Hid (w.heap.size < w2.heap.size) := Lib.hid HR2.out.lt
      clear hb s0
      obtain ⟨hok, hpart⟩ := okAt_iff.1 (form_at HF.out HX.out)
      by_cases h34 : x.op = 3 ∨ x.op = 4
      · obtain ⟨pa, epa, hpa⟩ := nat_of (hpart x.a (by unfold partsN; rw [if_pos h34]; simp))
        obtain ⟨pb, epb, hpb⟩ := nat_of (hpart x.b (by unfold partsN; rw [if_pos h34]; simp))
        have hab : pa ≠ pb := by rintro rfl; exact two_apart HF.out HX.out h34 (epa.trans epb.symm)
        rw [epa] at k3
        rw [epb] at k4
        have HK2 : Hid (downA l last tell (k + 1) = (D.set pa p1).set pb p2) := Lib.hid (by rw [HK.out]; unfold setP; rw [if_pos h34, epa, epb, Int.toNat_natCast, Int.toNat_natCast])
        have hpan : (pa : Int) < n := by omega
        have hpbn : (pb : Int) < n := by omega
        have hpa0 : (0 : Int) ≤ pa := by omega
        have hpb0 : (0 : Int) ≤ pb := by omega
        have ca : w2.cell? ⟨w.heap.size, pa, none⟩ = some (.bool (D.getD pa false)) := HR2.out.cell (by rw [List.getElem?_map, getD_get (by rw [HDL.out]; omega)]; rfl)
        have cb : w2.cell? ⟨w.heap.size, pb, none⟩ = some (.bool (D.getD pb false)) := HR2.out.cell (by rw [List.getElem?_map, getD_get (by rw [HDL.out]; omega)]; rfl)
        have fa := HR2.out.froz pa
        have fb := HR2.out.froz pb
        have HAB := Lib.hid hab
        have hsz2 := HSZ2.out
        have ga : D[pa]? = some (D.getD pa false) := getD_get (by rw [HDL.out]; omega)
        have gb : D[pb]? = some (D.getD pb false) := getD_get (by rw [HDL.out]; omega)
        generalize D.getD pa false = da at ca ga
        generalize D.getD pb false = db at cb gb
        obtain ⟨W3, hW3⟩ : ∃ W3, W3 = w2.alloc (.cells #[.int .i64 x.op, .string ⟨x.sym.toArray⟩, .int .i64 (pa : Int), .int .i64 (pb : Int)] 45) := ⟨_, rfl⟩
        have HB3 : Hid (Below w2.heap.size w2 W3) := Lib.hid (by rw [hW3]; exact (Below.refl _ _).alloc (Nat.le_refl _) _)
        have HR3 := Lib.hid (HR2.out.below HB3.out)
        have HBB := Lib.hid (th HB2.out (Nat.le_refl _) HB3.out)
        have q0 : W3.cell? ⟨w2.heap.size, 0, none⟩ = some (.int .i64 x.op) := by rw [hW3]; simp
        have q2 : W3.cell? ⟨w2.heap.size, 2, none⟩ = some (.int .i64 (pa : Int)) := by rw [hW3]; simp
        have q3 : W3.cell? ⟨w2.heap.size, 3, none⟩ = some (.int .i64 (pb : Int)) := by rw [hW3]; simp
        have ca3 := up_cell HB3.out (Nat.le_refl _) ca
        have cb3 := up_cell HB3.out (Nat.le_refl _) cb
        have fa3 := HR3.out.froz pa
        have fb3 := HR3.out.froz pb
        have n1 : (W3.setCell ⟨w.heap.size, pa, none⟩ (.bool p1)).cell? ⟨w.heap.size, pb, none⟩ = some (.bool db)  := (HR3.out.set pa (.bool p1)).cell (by rw [List.getElem?_set_ne hab, List.getElem?_map, gb]; rfl)
        have n2 : (W3.setCell ⟨w.heap.size, pb, none⟩ (.bool p2)).cell? ⟨w.heap.size, pa, none⟩ = some (.bool da) := (HR3.out.set pb (.bool p2)).cell (by rw [List.getElem?_set_ne (fun e => hab e.symm), List.getElem?_map, ga]; rfl)
        have hne : (w.heap.size = w2.heap.size) = False := by simp; omega
        have ho : x.op = 3 ∨ x.op = 4 := h34
        clear hok hpart hpa hpb hab ga gb ca cb fa fb hsz2 epa epb h34
        rcases ho with ho | ho
        · rw [ho] at k1 q0 hW3
          have HW3 := Lib.hid hW3
          clear ho hW3
          go_wp2_with fail
          rw [← HW3.out]
          go_region
          all_goals (
            go_wp2_with fail
            go_roundw
            case rel => exact ⟨k + 1, by go_num, by have := HLT.out; omega, Lib.hid ⟨by
              rw [HK2.out]
              first | exact two_set HR3.out | exact two_set' HR3.out HAB.out, by
              first | exact (two_kept HBB.out).drew | exact two_kept HBB.out⟩⟩
            case measure => have := HLT.out; simp [intOf]; omega)
        · rw [ho] at k1 q0 hW3
          have HW3 := Lib.hid hW3
          clear ho hW3
          go_wp2_with fail
          rw [← HW3.out]
          go_region
          all_goals (
            go_wp2_with fail
            go_roundw
            case rel => exact ⟨k + 1, by go_num, by have := HLT.out; omega, Lib.hid ⟨by
              rw [HK2.out]
              first | exact two_set HR3.out | exact two_set' HR3.out HAB.out, by
              first | exact (two_kept HBB.out).drew | exact two_kept HBB.out⟩⟩
            case measure => have := HLT.out; simp [intOf]; omega)
      · by_cases h5 : x.op = 5
        · obtain ⟨pa, epa, hpa⟩ := nat_of (hpart x.a (by rw [parts5 h5]; simp))
          rw [epa] at k3
          have HK2 : Hid (downA l last tell (k + 1) = D.set pa p1) := Lib.hid (by rw [HK.out]; unfold setP; rw [if_neg h34, if_pos h5, epa, Int.toNat_natCast])
          have hpan : (pa : Int) < n := by omega
          have hpa0 : (0 : Int) ≤ pa := by omega
          have ca : w2.cell? ⟨w.heap.size, pa, none⟩ = some (.bool (D.getD pa false)) := HR2.out.cell (by rw [List.getElem?_map, getD_get (by rw [HDL.out]; omega)]; rfl)
          have fa := HR2.out.froz pa
          have hsz2 := HSZ2.out
          generalize D.getD pa false = da at ca
          obtain ⟨W3, hW3⟩ : ∃ W3, W3 = w2.alloc (.cells #[.int .i64 5, .string ⟨x.sym.toArray⟩, .int .i64 (pa : Int), .int .i64 x.b] 45) := ⟨_, rfl⟩
          have HB3 : Hid (Below w2.heap.size w2 W3) := Lib.hid (by rw [hW3]; exact (Below.refl _ _).alloc (Nat.le_refl _) _)
          have HR3 := Lib.hid (HR2.out.below HB3.out)
          have HBB := Lib.hid (th HB2.out (Nat.le_refl _) HB3.out)
          have q2 : W3.cell? ⟨w2.heap.size, 2, none⟩ = some (.int .i64 (pa : Int)) := by rw [hW3]; simp
          have ca3 := up_cell HB3.out (Nat.le_refl _) ca
          have fa3 := HR3.out.froz pa
          have HW3 := Lib.hid hW3
          rw [h5] at k1
          clear hok hpart hpa ca fa hsz2 epa h34 h5 hW3
          go_upto_region 14 with fail
          rw [← HW3.out]
          go_wp2_with fail
          go_roundw
          case rel => exact ⟨k + 1, by go_num, by have := HLT.out; omega, Lib.hid ⟨by
            rw [HK2.out]
            have h9 := HR3.out.set pa (eB p1)
            rw [map_set] at h9
            exact h9, HBB.out.setCell (Nat.le_refl _) _⟩⟩
          case measure => have := HLT.out; simp [intOf]; omega
        · have e3 := ieq_f (show x.op ≠ 3 by omega)
          have e4 := ieq_f (show x.op ≠ 4 by omega)
          have e5 := ieq_f h5
          have HFIN : Hid (DwI w (w2.alloc (.cells (ndC x).toArray 45)) l last tell (k + 1)) := Lib.hid ⟨by
            rw [HK.out, show setP D x (p1, p2) = D by unfold setP; rw [if_neg h34, if_neg h5]]
            exact HR2.out.alloc _, HB2.out.alloc HB2.out.size _⟩
          clear h34 h5 hok hpart
          go_wp2_with fail
          go_roundw
          case rel => exact ⟨k + 1, by go_num, by have := HLT.out; omega, HFIN⟩
          case measure => have := HLT.out; simp [intOf]; omega
    · have hd1 : decide ((k : Int) < n) = false := by simp; omega
      have hd2 : decide (k < n) = false := by simp; omega
      have hkn : k = n := by omega
      have HKN := Lib.hid hkn
      clear hlt hk hkn
      go_wp2_with fail
      go_ret
      refine ⟨rfl, ?_, HI.out.kept⟩
      have h9 := HI.out.row
      rwa [HKN.out] at h9
end Go.Proofs.Ytnaimmhdpjggmaa.U
