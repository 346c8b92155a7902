/- Contracts and plain facts that the law stands on: T4, T7, T8, T9, Rd0, Rd1, Re. -/
import Derived.Test.YtjldpkhfiffinaaGreatDoorZA06
import Derived.Test.YtjldpkhfiffinaaGreatDoorRows
import Derived.Test.YtjldpkhfiffinaaGreatDoorZA01
import Derived.Test.YtjldpkhfiffinaaGreatDoorZA07
import Derived.Laws.ResultCell
import Derived.Deep.CutBlock
import Derived.Deep.DeepCutAuto
import Derived.Deep.RegionLaw
import Derived.Deep.AppendLies
import Derived.StillTailTactics
import Derived.Laws.AppendOwnNone
import Derived.Deep.QuietTactic
import Derived.BigQuiet
import Derived.Test.YtjldpkhfiffinaaGreatDoorZA03
import Derived.ArgAppend
namespace Go.Proofs.YtjldpkhfiffinaaGreatDoor.U
open Go.RowKit
end Go.Proofs.YtjldpkhfiffinaaGreatDoor.U
namespace Go.Proofs.YtjldpkhfiffinaaGreatDoor.U
open Go.RowKit
/-- Whether steps are not too many, or too long. -/
def fewS (l : List Stp) : Bool := l.all (fun s => decide (s.name.length ≤ 100) && decide (s.text.length ≤ 100)) && decide (l.length ≤ 60)
end Go.Proofs.YtjldpkhfiffinaaGreatDoor.U
namespace Go.Proofs.YtjldpkhfiffinaaGreatDoor.U
open Go.RowKit
end Go.Proofs.YtjldpkhfiffinaaGreatDoor.U

namespace Go.Proofs.YtjldpkhfiffinaaGreatDoor.U
open Go.RowKit
/-- A slice value whose elements' cells are these, in a block of the kind S. -/
def AtRowS (S : Nat → Prop) (w : World) (v : Value) (n size : Nat) (xs : List Value) : Prop :=
  ∃ a cap, v = .slice a n cap ∧ n ≤ cap ∧ xs.length = n * size ∧ (0 < n → ∃ g off, a = some ⟨g, off, none⟩ ∧ S g ∧ g < w.heap.size ∧ ∀ j u, xs[j]? = some u → w.cell? ⟨g, off + j, none⟩ = some u)
theorem AtRowS.v {S : Nat → Prop} {w : World} {v : Value} {n size : Nat} {xs : List Value} (h : AtRowS S w v n size xs) : AtRow w v n size xs := by
  obtain ⟨a, c, h1, h2, h3, h4⟩ := h
  exact ⟨a, c, h1, h2, h3, fun h0 => by obtain ⟨g, off, h5, _, _, h6⟩ := h4 h0; exact ⟨g, off, h5, h6⟩⟩
theorem AtRowS.mono {S S' : Nat → Prop} {w : World} {v : Value} {n size : Nat} {xs : List Value} (h : AtRowS S w v n size xs) (hs : ∀ g, S g → g < w.heap.size → S' g) : AtRowS S' w v n size xs := by
  obtain ⟨a, c, h1, h2, h3, h4⟩ := h
  exact ⟨a, c, h1, h2, h3, fun h0 => by obtain ⟨g, off, h5, h6, h7, h8⟩ := h4 h0; exact ⟨g, off, h5, hs g h6 h7, h7, h8⟩⟩
theorem AtRowS.keep {S : Nat → Prop} {w w' : World} {v : Value} {n size : Nat} {xs : List Value} (h : AtRowS S w v n size xs) (hsz : w.heap.size ≤ w'.heap.size) (hs : ∀ g, S g → g < w.heap.size → w'.heap[g]? = w.heap[g]?) : AtRowS S w' v n size xs := by
  obtain ⟨a, c, h1, h2, h3, h4⟩ := h
  exact ⟨a, c, h1, h2, h3, fun h0 => by obtain ⟨g, off, h5, h6, h7, h8⟩ := h4 h0; exact ⟨g, off, h5, h6, by omega, fun j u hu => (World.cell?_of_block (hs g h6 h7)).trans (h8 j u hu)⟩⟩
theorem AtRowS.of_own {S : Nat → Prop} {w : World} {base n size : Nat} {e : TypeId} {v : Value} {xs : List Value} (h : w.ownsRow base e size v n xs) (hs : ∀ g, v.ownBlock = some g → S g) : AtRowS S w v n size xs := by
  obtain ⟨a, c, h1, h2, h3, h4⟩ := AtRow.of_own h
  subst h1
  refine ⟨a, c, rfl, h2, h3, fun h0 => ?_⟩
  obtain ⟨g, off, h5, h6⟩ := h4 h0
  subst h5
  exact ⟨g, off, rfl, hs g rfl, (h.lt g rfl).2, h6⟩
mutual
/-- A tree whose rows lie in blocks of the kind S. -/
def TreeS (S : Nat → Prop) (w : World) : Tr → List Value → Prop
  | .node lb tx al ks, hs => ∃ va vk, hs = [.string ⟨lb.toArray⟩, .string ⟨tx.toArray⟩, va, vk] ∧ AtRowS S w va al.length 2 (attrCells al) ∧ ∃ l : List (List Value), KidsS S w ks l ∧ AtRowS S w vk ks.length 4 l.flatten
def KidsS (S : Nat → Prop) (w : World) : List Tr → List (List Value) → Prop
  | [], l => l = []
  | t :: r, l => ∃ h q, l = h :: q ∧ TreeS S w t h ∧ KidsS S w r q
end
theorem TreeS.eq {S : Nat → Prop} {w : World} {lb tx : List UInt8} {al : List (List UInt8 × List UInt8)} {ks : List Tr} {hs : List Value} : TreeS S w (.node lb tx al ks) hs ↔ ∃ va vk, hs = [.string ⟨lb.toArray⟩, .string ⟨tx.toArray⟩, va, vk] ∧ AtRowS S w va al.length 2 (attrCells al) ∧ ∃ l : List (List Value), KidsS S w ks l ∧ AtRowS S w vk ks.length 4 l.flatten := by
  rw [TreeS]
/-- A map over what is said of rows. -/
theorem TreeS.map {S S' : Nat → Prop} {w w' : World} (hr : ∀ {v : Value} {n size : Nat} {xs : List Value}, AtRowS S w v n size xs → AtRowS S' w' v n size xs) (t : Tr) : ∀ hs, TreeS S w t hs → TreeS S' w' t hs := by
  refine Tr.rec (motive_1 := fun t => ∀ hs, TreeS S w t hs → TreeS S' w' t hs) (motive_2 := fun ks => ∀ l, KidsS S w ks l → KidsS S' w' ks l) ?_ ?_ ?_ t
  · intro lb tx al ks ih hs h
    rw [TreeS.eq] at h ⊢
    obtain ⟨va, vk, h1, h2, l, h3, h4⟩ := h
    exact ⟨va, vk, h1, hr h2, l, ih l h3, hr h4⟩
  · intro l h
    rw [KidsS] at h ⊢
    exact h
  · intro t ks ih1 ih2 l h
    rw [KidsS] at h ⊢
    obtain ⟨a, q, h1, h2, h3⟩ := h
    exact ⟨a, q, h1, ih1 a h2, ih2 q h3⟩
theorem KidsS.map {S S' : Nat → Prop} {w w' : World} (hr : ∀ {v : Value} {n size : Nat} {xs : List Value}, AtRowS S w v n size xs → AtRowS S' w' v n size xs) : ∀ {ks : List Tr} {l : List (List Value)}, KidsS S w ks l → KidsS S' w' ks l := by
  intro ks
  induction ks with
  | nil => intro l h; rw [KidsS] at h ⊢; exact h
  | cons t r ih =>
    intro l h
    rw [KidsS] at h ⊢
    obtain ⟨a, q, h1, h2, h3⟩ := h
    exact ⟨a, q, h1, TreeS.map hr t a h2, ih h3⟩
theorem TreeS.mono {S S' : Nat → Prop} {w : World} {t : Tr} {hs : List Value} (h : TreeS S w t hs) (hm : ∀ g, S g → g < w.heap.size → S' g) : TreeS S' w t hs := TreeS.map (fun h => h.mono hm) t hs h
theorem TreeS.keep {S : Nat → Prop} {w w' : World} {t : Tr} {hs : List Value} (h : TreeS S w t hs) (hsz : w.heap.size ≤ w'.heap.size) (hk : ∀ g, S g → g < w.heap.size → w'.heap[g]? = w.heap[g]?) : TreeS S w' t hs := TreeS.map (fun h => h.keep hsz hk) t hs h
theorem KidsS.mono {S S' : Nat → Prop} {w : World} {ks : List Tr} {l : List (List Value)} (h : KidsS S w ks l) (hm : ∀ g, S g → g < w.heap.size → S' g) : KidsS S' w ks l := KidsS.map (fun h => h.mono hm) h
theorem KidsS.keep {S : Nat → Prop} {w w' : World} {ks : List Tr} {l : List (List Value)} (h : KidsS S w ks l) (hsz : w.heap.size ≤ w'.heap.size) (hk : ∀ g, S g → g < w.heap.size → w'.heap[g]? = w.heap[g]?) : KidsS S w' ks l := KidsS.map (fun h => h.keep hsz hk) h
theorem TreeS.v {S : Nat → Prop} {w : World} (t : Tr) : ∀ hs, TreeS S w t hs → TreeV w t hs := by
  refine Tr.rec (motive_1 := fun t => ∀ hs, TreeS S w t hs → TreeV w t hs) (motive_2 := fun ks => ∀ l, KidsS S w ks l → KidsV w ks l) ?_ ?_ ?_ t
  · intro lb tx al ks ih hs h
    rw [TreeS.eq] at h
    rw [TreeV.eq]
    obtain ⟨va, vk, h1, h2, l, h3, h4⟩ := h
    exact ⟨va, vk, h1, h2.v, l, ih l h3, h4.v⟩
  · intro l h
    rw [KidsS] at h
    rw [KidsV]
    exact h
  · intro t ks ih1 ih2 l h
    rw [KidsS] at h
    rw [KidsV]
    obtain ⟨a, q, h1, h2, h3⟩ := h
    exact ⟨a, q, h1, ih1 a h2, ih2 q h3⟩
theorem KidsS.snoc {S : Nat → Prop} {w : World} {t : Tr} {h : List Value} (ht : TreeS S w t h) : ∀ {ks : List Tr} {l : List (List Value)}, KidsS S w ks l → KidsS S w (ks ++ [t]) (l ++ [h]) := by
  intro ks
  induction ks with
  | nil =>
    intro l hl
    rw [KidsS] at hl
    subst hl
    rw [List.nil_append, List.nil_append, KidsS]
    exact ⟨h, [], rfl, ht, by rw [KidsS]⟩
  | cons u r ih =>
    intro l hl
    rw [KidsS] at hl
    obtain ⟨a, q, rfl, h2, h3⟩ := hl
    rw [List.cons_append, List.cons_append, KidsS]
    exact ⟨a, q ++ [h], rfl, h2, ih h3⟩
theorem TreeS.four {S : Nat → Prop} {w : World} {t : Tr} {hs : List Value} (h : TreeS S w t hs) : ∃ (lb tx : ByteArray) (a d : Option Addr) (n c m e : Nat), hs = [.string lb, .string tx, .slice a n c, .slice d m e] := by
  obtain ⟨lb, tx, al, ks⟩ := t
  rw [TreeS.eq] at h
  obtain ⟨va, vk, h1, ⟨a, c, rfl, _⟩, lk, _, ⟨d, e, rfl, _⟩⟩ := h
  exact ⟨_, _, a, d, _, c, _, e, h1⟩
/-- append to a row of the call's own, as one step of a region that draws its order, with where the new row lies. -/
theorem step_append_at {P : Program} {ops : Array Oper} {o : Oper} {a : Act} {w : World} {K : Act → World → Prop} {Q : Exit → Act → World → Prop} {E : Prop} (hg : o.guard = none) (s x : Operand) (t : TypeId)
    (ho : o.op = .call { callee := .builtin .append, args := #[s, x], argTypes := #[t, t] })
    (base : Nat) (e : TypeId) (i : TypeInfo) (z : Value) (size bytes : Nat) (ht : P.underlying t = some (.slice e)) (hi : P.info? e = some i) (hz : i.zero = some z)
    (hsize : i.size = size) (hby : i.bytes = bytes) (hzs : z.cells.size = size) (hsz : 0 < size)
    (v : Value) (n : Nat) (xs : List Value) (hs : a.eval s = v) (hown : w.ownsRow base e size v n xs)
    (ad : Addr) (m c : Nat) (news : List Value) (hx : a.eval x = .slice (some ad) m c) (hl : news.length = m * size) (hnews : ∀ j u, news[j]? = some u → w.cell? (ad.add j) = some u) (h1 : ∀ u ∈ news, u.oneCell' = true)
    (h63 : n + m ≤ maxLen) (hbytes : (n + m) * bytes ≤ 140737488355328) (hbase : base ≤ w.heap.size)
    (h : ∀ v' w', w'.ownsRow base e size v' (n + m) (xs ++ news) → w.grownBy w' v.ownBlock → (v'.ownBlock = v.ownBlock ∨ v'.ownBlock = some w.heap.size) → K (a.put o.dst v') w') :
    if Region.wanted o (yielded ops a.tmps) = true then Oper.wp P o a w K Q else E := by
  have hw : Region.wanted o (yielded ops a.tmps) = true := by simp [Region.wanted, hg]
  rw [if_pos hw]
  obtain ⟨v', w', hr, h2, h3, _, h5⟩ := run_append_own_at (P := P) w base t o.type e i z size bytes ht hi hz hsize hby hzs hsz v n xs hown ad m c news hl hnews h1 h63 hbytes hbase
  unfold Oper.wp execOp
  simp only [ho, resolve, invoke, builtin, Sem.run_bind, Sem.run_pure, Result.andThen_ok, List.map_toArray, List.map_cons, List.map_nil, hs, hx, hr]
  exact h v' w' h2 h3 h5
theorem grownBy_setAt (W : World) (b i : Nat) (v : Value) : W.grownBy (W.setCell ⟨b, i, none⟩ v) (some b) :=
  ⟨rfl, rfl, rfl, (KeepsWalks.setCell W _ v).size, fun k _ hk => Below.heap_setCell _ _ _ k (fun e => hk (by rw [e]))⟩
theorem cell_four_new (w : World) (a b c d : Value) (t : TypeId) : ∀ j u, [a, b, c, d][j]? = some u → (w.alloc (.cells #[a, b, c, d] t)).cell? ((⟨w.heap.size, 0, none⟩ : Addr).add j) = some u := by
  intro j u hj
  match j, hj with
  | 0, hj => simp at hj; subst hj; simp [Addr.add]
  | 1, hj => simp at hj; subst hj; simp [Addr.add]
  | 2, hj => simp at hj; subst hj; simp [Addr.add]
  | 3, hj => simp at hj; subst hj; simp [Addr.add]
theorem AtRowS.setAt {S : Nat → Prop} {w : World} {v : Value} {n size b i : Nat} {xs : List Value} (h : AtRowS S w v n size xs) (hS : ∀ g, S g → g ≠ b) (c : Value) : AtRowS S (w.setCell ⟨b, i, none⟩ c) v n size xs :=
  h.keep (grownBy_setAt w b i c).size (fun g hg hl => (grownBy_setAt w b i c).block g hl (fun e => hS g hg (by cases e; rfl)))
theorem AtRowS.set4 {S : Nat → Prop} {w : World} {v : Value} {n size b : Nat} {xs : List Value} (h : AtRowS S w v n size xs) (hS : ∀ g, S g → g ≠ b) (c0 c1 c2 c3 : Value) :
    AtRowS S ((((w.setCell ⟨b, 0, none⟩ c0).setCell ⟨b, 1, none⟩ c1).setCell ⟨b, 2, none⟩ c2).setCell ⟨b, 3, none⟩ c3) v n size xs := (((h.setAt hS c0).setAt hS c1).setAt hS c2).setAt hS c3
end Go.Proofs.YtjldpkhfiffinaaGreatDoor.U
namespace Go.Proofs.YtjldpkhfiffinaaGreatDoor.U
open Go.RowKit
/-- Whether a step has nothing that is not named. -/
def plainS (s : Stp) : Bool :=
  if s.kind = 1 then decide (s.text = []) else if s.kind = 3 then decide (s.name = []) else decide (s.kind = 2) || (decide (s.kind = 4) && decide (s.name = []) && decide (s.text = []))
end Go.Proofs.YtjldpkhfiffinaaGreatDoor.U
namespace Go.Proofs.YtjldpkhfiffinaaGreatDoor.U
open Go.RowKit Go.Shelf
theorem Box4.thaw {b : Nat} {lb tx : ByteArray} {va vk : Value} {w : World} (h : Box4 b lb tx va vk w) (i : Nat) : w.frozen? ⟨b, i, none⟩ = false := Lib.frozen_of_heap h i
theorem Box4.setK {b : Nat} {lb tx : ByteArray} {va vk : Value} {w : World} (h : Box4 b lb tx va vk w) (v : Value) : Box4 b lb tx va v (w.setCell ⟨b, 3, none⟩ v) := by
  unfold Box4 at h ⊢
  simp [World.setCell, Array.getElem?_modify, h]
theorem Box4.set4 {b : Nat} {lb tx : ByteArray} {va vk : Value} {w : World} (h : Box4 b lb tx va vk w) (l' t' : ByteArray) (a' k' : Value) :
    Box4 b l' t' a' k' ((((w.setCell ⟨b, 0, none⟩ (.string l')).setCell ⟨b, 1, none⟩ (.string t')).setCell ⟨b, 2, none⟩ a').setCell ⟨b, 3, none⟩ k') := by
  unfold Box4 at h ⊢
  simp [World.setCell, Array.getElem?_modify, h]
theorem below_set4 {n b : Nat} {w w' : World} (h : Below n w w') (hb : n ≤ b) (l' t' : Value) (a' k' : Value) : Below n w ((((w'.setCell ⟨b, 0, none⟩ l').setCell ⟨b, 1, none⟩ t').setCell ⟨b, 2, none⟩ a').setCell ⟨b, 3, none⟩ k') :=
  (((h.setCell (p := ⟨b, 0, none⟩) hb _).setCell (p := ⟨b, 1, none⟩) hb _).setCell (p := ⟨b, 2, none⟩) hb _).setCell (p := ⟨b, 3, none⟩) hb _
/-- What node leaves: a tree whose steps begin at a place, and where they end; or none. -/
def NodePost (l : List Stp) (p : Nat) (w : World) (e : Ending) (w' : World) : Prop :=
  Below w.heap.size w w' ∧ ∃ (x y : ByteArray) (a d : Option Addr) (n c m f : Nat) (r : Int), e = .returned (.tuple #[.agg #[.string x, .string y, .slice a n c, .slice d m f], .int .i64 r]) ∧
    (r = -1 ∨ ∃ (T : Tr) (k : Nat), r = k ∧ p < k ∧ k ≤ l.length ∧ TreeS (fun g => w.heap.size ≤ g) w' T [.string x, .string y, .slice a n c, .slice d m f] ∧ bareA T = true ∧ l.take k = l.take p ++ stepsT T)
end Go.Proofs.YtjldpkhfiffinaaGreatDoor.U
namespace Go.Proofs.YtjldpkhfiffinaaGreatDoor.U
open Go.RowKit Go.Shelf
theorem infoTree : (Tryz.prog.info? 27).map (fun i => (i.zero, i.size, i.bytes)) = some (some (.agg #[.string ⟨#[]⟩, .string ⟨#[]⟩, .slice none 0 0, .slice none 0 0]), 4, 80) := by kernel_rfl
/-- How it stands among attributes. -/
def NRel1 (l : List Stp) (n p : Nat) (lb : List UInt8) (lbb : ByteArray) (b0 bt : Nat) (w : World) (q : Nat) (al : List (List UInt8 × List UInt8)) (a5 : Option Addr) (c5 : Nat) (W : World) : Prop :=
  p + 1 ≤ q ∧ q ≤ n ∧ l.take q = l.take p ++ (⟨1, lb, []⟩ :: al.map attrS) ∧ W.ownsRow (bt + 1) 82 2 (.slice a5 al.length c5) al.length (attrCells al) ∧ Box4 bt lbb ⟨#[]⟩ (.slice a5 al.length c5) (.slice none 0 0) W ∧
    Box4 b0 ⟨#[]⟩ ⟨#[]⟩ (.slice none 0 0) (.slice none 0 0) W ∧ Below w.heap.size w W
/-- How it stands among children. -/
def NRel2 (l : List Stp) (n p : Nat) (lb : List UInt8) (lbb : ByteArray) (b0 bt : Nat) (w : World) (q : Nat) (al : List (List UInt8 × List UInt8)) (ks : List Tr) (lk : List (List Value)) (a5 a7 : Option Addr) (c5 c7 : Nat) (W : World) : Prop :=
  p + 1 ≤ q ∧ q ≤ n ∧ l.take q = l.take p ++ (⟨1, lb, []⟩ :: (al.map attrS ++ stepsK ks)) ∧ bareK ks = true ∧ W.ownsRow (bt + 1) 82 2 (.slice a5 al.length c5) al.length (attrCells al) ∧
    W.ownsRow (bt + 1) 27 4 (.slice a7 ks.length c7) ks.length lk.flatten ∧ KidsS (fun g => bt + 1 ≤ g ∧ some g ≠ (Value.slice a7 ks.length c7).ownBlock) W ks lk ∧ Box4 bt lbb ⟨#[]⟩ (.slice a5 al.length c5) (.slice a7 ks.length c7) W ∧
    Box4 b0 ⟨#[]⟩ ⟨#[]⟩ (.slice none 0 0) (.slice none 0 0) W ∧ Below w.heap.size w W
end Go.Proofs.YtjldpkhfiffinaaGreatDoor.U
namespace Go.Proofs.YtjldpkhfiffinaaGreatDoor.U
open Go.RowKit Go.Shelf
/-- Where steps lie. -/
def StepsAt (l : List Stp) (g off : Nat) (w : World) : Prop := ∀ k s, l[k]? = some s → w.cell? ⟨g, off + k * 3, none⟩ = some (.int .i64 s.kind) ∧ w.cell? ⟨g, off + k * 3 + 1, none⟩ = some (.string ⟨s.name.toArray⟩) ∧ w.cell? ⟨g, off + k * 3 + 2, none⟩ = some (.string ⟨s.text.toArray⟩)
/-- What Raw leaves: a tree whose steps these are; or none. -/
def RawPost (l : List Stp) (w : World) (e : Ending) (w' : World) : Prop :=
  Below w.heap.size w w' ∧ ∃ (x y : ByteArray) (a d : Option Addr) (n c m f : Nat) (is : Bool), e = .returned (.tuple #[.agg #[.string x, .string y, .slice a n c, .slice d m f], .bool is]) ∧
    (is = true → ∃ T : Tr, TreeS (fun g => w.heap.size ≤ g) w' T [.string x, .string y, .slice a n c, .slice d m f] ∧ bareA T = true ∧ stepsT T = l)
end Go.Proofs.YtjldpkhfiffinaaGreatDoor.U

namespace Go.Proofs.YtjldpkhfiffinaaGreatDoor.U
open Go.RowKit
theorem add_zero_at (b i : Nat) : (⟨b, 0, none⟩ : Addr).add i = ⟨b, i, none⟩ := by unfold Addr.add; split <;> simp_all
theorem own_form {w : World} {base size n c : Nat} {a : Option Addr} {e : TypeId} {xs : List Value} (h : w.ownsRow base e size (.slice a n c) n xs) : (a = none ∧ c = 0 ∧ n = 0) ∨ ∃ g, a = some ⟨g, 0, none⟩ ∧ (∀ j u, xs[j]? = some u → w.cell? ((⟨g, 0, none⟩ : Addr).add j) = some u) ∧ n ≤ c := by
  rcases h.2 with ⟨h2, h3⟩ | ⟨g', cap, cur, hv, _, _, h3, _⟩
  · injection h2 with e1 e2 e3
    exact .inl ⟨e1, e3, h3⟩
  · injection hv with e1 e2 e3
    subst e1 e3
    exact .inr ⟨g', rfl, fun j u hu => h.cells rfl j u hu, h3⟩
end Go.Proofs.YtjldpkhfiffinaaGreatDoor.U
namespace Go.Proofs.YtjldpkhfiffinaaGreatDoor.U
open Go.RowKit
/-- How many steps and how much text pieces can give. -/
def szX (l : List Tok) : Nat := (l.map fun t => t.attrs.length + t.text.length + 2).sum
/-- What is left of the question, ahead of piece k. -/
def XInv (l : List Tok) (k : Nat) (op : List (List UInt8)) (done : Bool) (out : List Stp) : Prop :=
  xmlL l = xmlA k op done out (l.drop k) ∧ out.length + szX (l.drop k) ≤ szX l ∧ op.length ≤ out.length ∧ ∀ s, out.getLast? = some s → s.kind = 3 → s.text.length + szX (l.drop k) ≤ szX l
def strVs (op : List (List UInt8)) : List Value := op.reverse.map fun x => .string ⟨x.toArray⟩
theorem own_upd {w : World} {base size n c g i : Nat} {e : TypeId} {u : Value} {xs : List Value} (h : w.ownsRow base e size (.slice (some ⟨g, 0, none⟩) n c) n xs) (_hi : i < n * size) : (w.setCell ⟨g, i, none⟩ u).ownsRow base e size (.slice (some ⟨g, 0, none⟩) n c) n (xs.set i u) := by
  refine ⟨by rw [List.length_set]; exact h.1, ?_⟩
  rcases h.2 with ⟨h1, h2⟩ | ⟨g', cap, cur, hv, hb, hg, h3, h4, h5, h6⟩
  · simp at h1
  · injection hv with e1 e2 e3
    simp only [Option.some.injEq, Addr.mk.injEq, and_true] at e1
    subst e1 e3
    refine .inr ⟨g, c, cur.set! i u, rfl, hb, ?_, h3, h4, by simpa using h5, ?_⟩
    · simp [World.setCell, Array.getElem?_modify, hg]
    · rw [← h6]
      simp [List.take_set]
/-- What the document's Steps leave. -/
def XStepsPost (r : Except Nat (List Stp)) (w : World) (e : Ending) (w' : World) : Prop :=
  Below w.heap.size w w' ∧ ((∃ s a c, r = .ok s ∧ e = .returned (.tuple #[.slice a s.length c, .int .i64 (-1)]) ∧ w'.ownsRow w.heap.size 78 3 (.slice a s.length c) s.length (stepCells s)) ∨
    ∃ i : Nat, r = .error i ∧ e = .returned (.tuple #[.slice none 0 0, .int .i64 i]))
end Go.Proofs.YtjldpkhfiffinaaGreatDoor.U
namespace Go.Proofs.YtjldpkhfiffinaaGreatDoor.U
open Go.RowKit
end Go.Proofs.YtjldpkhfiffinaaGreatDoor.U

namespace Go.Proofs.YtjldpkhfiffinaaGreatDoor.U
/-- A tree is closed: it goes to the children of the next one. -/
def popT (t : Tr) : List Tr → Option (List Tr)
  | [] => none
  | .node lb tx al ks :: q => some (.node lb tx al (ks ++ [t]) :: q)
/-- One step, on the stack of the trees that are open (the last one first). -/
def bStep : List Tr → Stp → Option (List Tr)
  | [], _ => none
  | .node lb tx al ks :: r, s =>
    if s = ⟨1, s.name, []⟩ ∧ s.name ≠ [] then some (.node s.name [] [] [] :: .node lb tx al ks :: r)
    else if s = ⟨2, s.name, s.text⟩ ∧ r ≠ [] ∧ ks = [] then some (.node lb tx (al ++ [(s.name, s.text)]) ks :: r)
    else if s = ⟨3, [], s.text⟩ then some (.node lb tx al (ks ++ [.node [] s.text [] []]) :: r)
    else if s = ⟨4, [], []⟩ then popT (.node lb tx al ks) r
    else none
def bAll : List Tr → List Stp → Option (List Tr)
  | st, [] => some st
  | st, s :: r => match bStep st s with
    | none => none
    | some st' => bAll st' r
def builtL (l : List Stp) : Option Tr := match bAll [.node [] [] [] []] l with
  | some [.node _ _ _ [t]] => some t
  | _ => none
/-- The steps that a stack has taken. -/
def stS : List Tr → List Stp
  | [] => []
  | [.node _ _ _ ks] => stepsK ks
  | .node lb _ al ks :: u :: r => stS (u :: r) ++ (⟨1, lb, []⟩ :: (al.map attrS ++ stepsK ks))
/-- A stack as built makes it. -/
def stOk : List Tr → Prop
  | [] => False
  | [.node lb tx al ks] => lb = [] ∧ tx = [] ∧ al = [] ∧ bareK ks = true
  | .node lb tx _ ks :: u :: r => lb ≠ [] ∧ tx = [] ∧ bareK ks = true ∧ stOk (u :: r)
end Go.Proofs.YtjldpkhfiffinaaGreatDoor.U
namespace Go.Proofs.YtjldpkhfiffinaaGreatDoor.U
open Go.RowKit
end Go.Proofs.YtjldpkhfiffinaaGreatDoor.U
namespace Go.Proofs.YtjldpkhfiffinaaGreatDoor.U
open Go.RowKit
def trL : Tr → List UInt8 | .node lb _ _ _ => lb
def trX : Tr → List UInt8 | .node _ tx _ _ => tx
def trA : Tr → List (List UInt8 × List UInt8) | .node _ _ al _ => al
def trK : Tr → List Tr | .node _ _ _ ks => ks
/-- A tree's four values. -/
def headOf (t : Tr) (p : Value × Value) : List Value := [.string ⟨(trL t).toArray⟩, .string ⟨(trX t).toArray⟩, p.1, p.2]
/-- The cells of the trees that are open, the first one first. -/
def stCells : List Tr → List (Value × Value) → List Value
  | t :: r, p :: q => stCells r q ++ headOf t p
  | _, _ => []
/-- The blocks of their own rows. -/
def blk (vs : List (Value × Value)) : List Nat := vs.flatMap fun p => p.1.ownBlock.toList ++ p.2.ownBlock.toList
def OpenS (S : Nat → Prop) (w : World) (base : Nat) : List Tr → List (Value × Value) → Prop
  | [], vs => vs = []
  | t :: r, vs => ∃ va vk q lk, vs = (va, vk) :: q ∧ w.ownsRow base 82 2 va (trA t).length (attrCells (trA t)) ∧ w.ownsRow base 27 4 vk (trK t).length lk.flatten ∧ KidsS S w (trK t) lk ∧ OpenS S w base r q
def StackV (w : World) (base : Nat) (v : Value) (st : List Tr) (vs : List (Value × Value)) : Prop :=
  w.ownsRow base 27 4 v st.length (stCells st vs) ∧ OpenS (fun g => base ≤ g ∧ g ∉ v.ownBlock.toList ++ blk vs) w base st vs ∧ (v.ownBlock.toList ++ blk vs).Nodup
theorem own_heap {w w' : World} {base size n : Nat} {e : TypeId} {v : Value} {xs : List Value} (h : w.ownsRow base e size v n xs) (hk : ∀ g, v.ownBlock = some g → w'.heap[g]? = w.heap[g]?) : w'.ownsRow base e size v n xs := by
  refine ⟨h.1, ?_⟩
  rcases h.2 with h1 | ⟨g, cap, cur, rfl, h2, h3, h4⟩
  · exact .inl h1
  · exact .inr ⟨g, cap, cur, rfl, h2, by rw [hk g rfl]; exact h3, h4⟩
theorem own_unique {w : World} {b1 b2 size n : Nat} {e1 e2 : TypeId} {v : Value} {xs ys : List Value} (h : w.ownsRow b1 e1 size v n xs) (k : w.ownsRow b2 e2 size v n ys) : xs = ys := by
  rcases h.2 with ⟨rfl, rfl⟩ | ⟨g, cap, cur, rfl, _, h3, _, _, _, h7⟩
  · have e1 : xs = [] := List.eq_nil_of_length_eq_zero (by rw [h.1, Nat.zero_mul])
    have e2 : ys = [] := List.eq_nil_of_length_eq_zero (by rw [k.1, Nat.zero_mul])
    rw [e1, e2]
  · rcases k.2 with ⟨k1, _⟩ | ⟨g', cap', cur', k1, _, k3, _, _, _, k7⟩
    · simp at k1
    · injection k1 with e1 e2 e3
      simp only [Option.some.injEq, Addr.mk.injEq, and_true] at e1
      subst e1
      rw [h3] at k3
      simp only [Option.some.injEq, Obj.cells.injEq] at k3
      rw [← h7, ← k7, k3.1]
/-- A text, as a child. -/
theorem text_treeS (S : Nat → Prop) (w : World) (x : List UInt8) : TreeS S w (.node [] x [] []) [.string ⟨#[]⟩, .string ⟨x.toArray⟩, .slice none 0 0, .slice none 0 0] := by
  rw [TreeS.eq]
  exact ⟨_, _, rfl, ⟨none, 0, rfl, Nat.le_refl _, rfl, fun h => absurd h (by simp)⟩, [], by rw [KidsS], ⟨none, 0, rfl, Nat.le_refl _, rfl, fun h => absurd h (by simp)⟩⟩
end Go.Proofs.YtjldpkhfiffinaaGreatDoor.U

namespace Go.Proofs.YtjldpkhfiffinaaGreatDoor.U
open Go.RowKit
/-- A block's part: (0,0) a closed tree's row, (1,0) the row of pointers, (2,i), (3,i), (4,i) the variable, the attributes and the children of the i-th that is open, (5,j) the attributes of the j-th piece, (6,0) the reader, (7,0) what lies still. -/
abbrev Part := Nat → Nat × Nat
def ptrV (p : Nat) : Value := .pointer (some ⟨p, 0, none⟩)
def ptrCells (ps : List Nat) : List Value := ps.reverse.map ptrV
theorem ptrCells_len (ps : List Nat) : (ptrCells ps).length = ps.length := by simp [ptrCells]
theorem ptrCells_cons (p : Nat) (ps : List Nat) : ptrCells (p :: ps) = ptrCells ps ++ [ptrV p] := by simp [ptrCells]
def OpenP (ρ : Part) (w : World) (base : Nat) : List Tr → List Nat → List (Value × Value) → Prop
  | [], ps, vs => ps = [] ∧ vs = []
  | t :: r, ps, vs => ∃ p va vk qs q lk, ps = p :: qs ∧ vs = (va, vk) :: q ∧ Box4 p ⟨(trL t).toArray⟩ ⟨(trX t).toArray⟩ va vk w ∧ base ≤ p ∧ ρ p = (2, r.length) ∧
      w.ownsRow base 82 2 va (trA t).length (attrCells (trA t)) ∧ (∀ g, va.ownBlock = some g → ρ g = (3, r.length)) ∧
      w.ownsRow base 27 4 vk (trK t).length lk.flatten ∧ (∀ g, vk.ownBlock = some g → ρ g = (4, r.length)) ∧
      KidsS (fun g => base ≤ g ∧ ρ g = (0, 0)) w (trK t) lk ∧ OpenP ρ w base r qs q
theorem OpenP.len {ρ : Part} {w : World} {base : Nat} : ∀ {st : List Tr} {ps : List Nat} {vs : List (Value × Value)}, OpenP ρ w base st ps vs → ps.length = st.length := by
  intro st
  induction st with
  | nil => intro ps vs h; rw [OpenP] at h; rw [h.1]; rfl
  | cons t r ih =>
    intro ps vs h
    rw [OpenP] at h
    obtain ⟨p, va, vk, qs, q, lk, rfl, rfl, _, _, _, _, _, _, _, _, h9⟩ := h
    simp [ih h9]
/-- What is still. -/
def Still (base n : Nat) (ρ ρ' : Part) (w w' : World) : Prop :=
  ∀ g, base ≤ g → g < w.heap.size → (ρ g = (0, 0) ∨ (2 ≤ (ρ g).1 ∧ (ρ g).1 ≤ 4 ∧ (ρ g).2 < n)) → ρ' g = ρ g ∧ w'.heap[g]? = w.heap[g]?
theorem Still.less {base n m : Nat} {ρ ρ' : Part} {w w' : World} (h : Still base n ρ ρ' w w') (hm : m ≤ n) : Still base m ρ ρ' w w' :=
  fun g h1 h2 h3 => h g h1 h2 (by rcases h3 with h3 | h3; exact .inl h3; exact .inr ⟨h3.1, h3.2.1, by omega⟩)
theorem kids_still {base n : Nat} {ρ ρ' : Part} {w w' : World} {ks : List Tr} {lk : List (List Value)} (h : KidsS (fun g => base ≤ g ∧ ρ g = (0, 0)) w ks lk) (hsz : w.heap.size ≤ w'.heap.size) (hs : Still base n ρ ρ' w w') : KidsS (fun g => base ≤ g ∧ ρ' g = (0, 0)) w' ks lk := by
  have k1 : KidsS (fun g => (base ≤ g ∧ ρ g = (0, 0)) ∧ g < w.heap.size) w ks lk := h.mono (fun g h5 h6 => ⟨h5, h6⟩)
  refine (k1.keep hsz (fun g h5 h6 => (hs g h5.1.1 h6 (.inl h5.1.2)).2)).mono (fun g h5 _ => ⟨h5.1.1, ?_⟩)
  rw [(hs g h5.1.1 h5.2 (.inl h5.1.2)).1]
  exact h5.1.2
theorem tree_still {base n : Nat} {ρ ρ' : Part} {w w' : World} {t : Tr} {hs : List Value} (h : TreeS (fun g => base ≤ g ∧ ρ g = (0, 0)) w t hs) (hsz : w.heap.size ≤ w'.heap.size) (hst : Still base n ρ ρ' w w') : TreeS (fun g => base ≤ g ∧ ρ' g = (0, 0)) w' t hs := by
  have k1 : TreeS (fun g => (base ≤ g ∧ ρ g = (0, 0)) ∧ g < w.heap.size) w t _ := h.mono (fun g h5 h6 => ⟨h5, h6⟩)
  refine (k1.keep hsz (fun g h5 h6 => (hst g h5.1.1 h6 (.inl h5.1.2)).2)).mono (fun g h5 _ => ⟨h5.1.1, ?_⟩)
  rw [(hst g h5.1.1 h5.2 (.inl h5.1.2)).1]
  exact h5.1.2
theorem OpenP.keep {base : Nat} {ρ ρ' : Part} {w w' : World} (hsz : w.heap.size ≤ w'.heap.size) : ∀ {st : List Tr} {ps : List Nat} {vs : List (Value × Value)}, OpenP ρ w base st ps vs → Still base st.length ρ ρ' w w' → OpenP ρ' w' base st ps vs := by
  intro st
  induction st with
  | nil => intro ps vs h _; rw [OpenP] at h ⊢; exact h
  | cons t r ih =>
    intro ps vs h hs
    rw [OpenP] at h ⊢
    obtain ⟨p, va, vk, qs, q, lk, rfl, rfl, h1, h2, h3, h4, h5, h6, h7, h8, h9⟩ := h
    have own : ∀ {e : TypeId} {size n : Nat} {v : Value} {xs : List Value} {i : Nat}, w.ownsRow base e size v n xs → 2 ≤ i → i ≤ 4 → (∀ g, v.ownBlock = some g → ρ g = (i, r.length)) → w'.ownsRow base e size v n xs ∧ (∀ g, v.ownBlock = some g → ρ' g = (i, r.length)) := fun {e size n v xs i} ho hi1 hi2 hr => by
      have k : ∀ g, v.ownBlock = some g → ρ' g = ρ g ∧ w'.heap[g]? = w.heap[g]? := fun g hg => by
        have := ho.lt g hg
        have e1 := hr g hg
        exact hs g this.1 this.2 (.inr (by rw [e1]; exact ⟨hi1, hi2, by simp⟩))
      exact ⟨own_heap ho (fun g hg => (k g hg).2), fun g hg => by rw [(k g hg).1]; exact hr g hg⟩
    obtain ⟨a1, a2⟩ := own h4 (by omega) (by omega) h5
    obtain ⟨k1, k2⟩ := own h6 (by omega) (by omega) h7
    have hp := hs p h2 h1.lt (.inr (by rw [h3]; exact ⟨by simp, by simp, by simp⟩))
    exact ⟨p, va, vk, qs, q, lk, rfl, rfl, hp.2.trans h1, h2, by rw [hp.1]; exact h3, a1, a2, k1, k2, kids_still h8 hsz hs, ih h9 (hs.less (by simp))⟩
/-- The row of pointers: it may be full before its block is. -/
def RowP (w : World) (base g n c : Nat) (xs : List Value) : Prop :=
  ∃ cur : Array Value, w.heap[g]? = some (.cells cur 122 (0, 0)) ∧ base ≤ g ∧ n ≤ c ∧ c ≤ cur.size ∧ c ≤ maxLen ∧ xs.length = n ∧ cur.toList.take n = xs ∧ (c = n ∨ cur.size = c)
theorem RowP.lt {w : World} {base g n c : Nat} {xs : List Value} (h : RowP w base g n c xs) : g < w.heap.size := by
  obtain ⟨cur, h1, _⟩ := h
  exact (Array.getElem?_eq_some_iff.1 h1).1
theorem RowP.keep {w w' : World} {base g n c : Nat} {xs : List Value} (h : RowP w base g n c xs) (hk : w'.heap[g]? = w.heap[g]?) : RowP w' base g n c xs := by
  obtain ⟨cur, h1, h2⟩ := h
  exact ⟨cur, hk.trans h1, h2⟩
theorem RowP.cell {w : World} {base g n c : Nat} {xs : List Value} (h : RowP w base g n c xs) (j : Nat) (u : Value) (hu : xs[j]? = some u) : w.cell? ⟨g, j, none⟩ = some u := by
  obtain ⟨cur, h1, _, _, _, _, _, h7, _⟩ := h
  rw [Lib.cell_of_heap h1, ← Array.getElem?_toList]
  rw [← h7, List.getElem?_take] at hu
  split at hu
  · exact hu
  · cases hu
theorem RowP.cut {w : World} {base g n c m : Nat} {xs : List Value} (h : RowP w base g n c xs) (hm : m ≤ n) : RowP w base g m m (xs.take m) := by
  obtain ⟨cur, h1, h2, h3, h4, h5, h6, h7, _⟩ := h
  refine ⟨cur, h1, h2, Nat.le_refl _, by omega, by omega, by rw [List.length_take]; omega, ?_, .inl rfl⟩
  rw [← h7, List.take_take, Nat.min_eq_left hm]
theorem RowP.of_own {w : World} {base n : Nat} {v : Value} {xs : List Value} (h : w.ownsRow base 122 1 v n xs) (hn : 0 < n) : ∃ g c, v = .slice (some ⟨g, 0, none⟩) n c ∧ RowP w base g n c xs := by
  obtain ⟨h0, h⟩ := h
  rcases h with ⟨_, h⟩ | ⟨g, cap, cur, rfl, h2, h3, h4, h5, h6, h7⟩
  · omega
  · exact ⟨g, cap, rfl, cur, h3, h2, h4, by omega, h5, by omega, by rw [Nat.mul_one] at h7; exact h7, .inr (by omega)⟩
theorem RowP.own {w : World} {base g n c : Nat} {xs : List Value} (h : RowP w base g n c xs) (hc : c ≠ n) : w.ownsRow base 122 1 (.slice (some ⟨g, 0, none⟩) n c) n xs := by
  obtain ⟨cur, h1, h2, h3, h4, h5, h6, h7, h8⟩ := h
  refine ⟨by omega, .inr ⟨g, c, cur, rfl, h2, h1, h3, h5, ?_, by rw [Nat.mul_one]; exact h7⟩⟩
  rcases h8 with h8 | h8
  · exact absurd h8 hc
  · omega
/-- A pointer more. -/
theorem wpList_append_rowP {P : Program} {ops : Array Oper} {rest : List Oper} {o : Oper} {a : Act} {w : World} {Q : Exit → Act → World → Prop} (hgd : o.guard = none) (s x : Operand) (t : TypeId)
    (ho : o.op = .call { callee := .builtin .append, args := #[s, x], argTypes := #[t, t] })
    (base : Nat) (i : TypeInfo) (z : Value) (bytes : Nat) (ht : P.underlying t = some (.slice 122)) (hi : P.info? 122 = some i) (hz : i.zero = some z)
    (hsize : i.size = 1) (hby : i.bytes = bytes) (hzs : z.cells.size = 1)
    (g n c : Nat) (xs : List Value) (hs : a.eval s = .slice (some ⟨g, 0, none⟩) n c) (hrow : RowP w base g n c xs)
    (ad : Addr) (c2 : Nat) (u : Value) (hx : a.eval x = .slice (some ad) 1 c2) (hnews : w.cell? (ad.add 0) = some u) (h1 : u.oneCell' = true)
    (h63 : n + 1 ≤ maxLen) (hbytes : (n + 1) * bytes ≤ 140737488355328) (hbase : base ≤ w.heap.size)
    (h : ∀ g' c' w', RowP w' base g' (n + 1) c' (xs ++ [u]) → w.grownBy w' (some g) → (g' = g ∨ w.heap.size ≤ g') → wpList P ops Q rest (a.put o.dst (.slice (some ⟨g', 0, none⟩) (n + 1) c')) w') : wpList P ops Q (o :: rest) a w := by
  have hn1 : ∀ j v, [u][j]? = some v → w.cell? (ad.add j) = some v := fun j v hj => by
    match j, hj with
    | 0, hj => simp at hj; subst hj; exact hnews
  by_cases hc : c = n
  · subst hc
    obtain ⟨cur, k1, k2, k3, k4, k5, k6, k7, k8⟩ := hrow
    refine wpList_append_grows w hgd s x t ho 122 i z 1 bytes ht hi hz hsize hby hzs (by decide) (some ⟨g, 0, none⟩) c c xs hs (fun e => by cases e) (by omega) ?_ ad 1 c2 [u] hx rfl hn1 (by simpa using h1) (by omega) h63 hbytes ?_
    · intro b e j v hj
      obtain rfl := Option.some.inj e
      rw [add_zero_at]
      exact RowP.cell ⟨cur, k1, k2, k3, k4, k5, k6, k7, k8⟩ j v hj
    · intro v' w' hown hg
      have hgw : w.grownBy w' (some g) := ⟨hg.os, hg.tape, hg.output, hg.size, fun k h5 _ => hg.block k h5 (by simp)⟩
      obtain ⟨g', c', rfl, hr⟩ := RowP.of_own hown (by omega)
      obtain ⟨cur', l1, l2, l3⟩ := hr
      exact h g' c' w' ⟨cur', l1, by omega, l3⟩ hgw (.inr l2)
  · have hown := hrow.own hc
    refine wpList_append_own_at w hgd s x t ho base 122 i z 1 bytes ht hi hz hsize hby hzs (by decide) _ n xs hs hown ad 1 c2 [u] hx rfl hn1 (by simpa using h1) h63 hbytes hbase ?_
    intro v' w' hown' hg _ hat
    obtain ⟨g', c', rfl, hr⟩ := RowP.of_own hown' (by omega)
    refine h g' c' w' hr hg ?_
    rcases hat with hat | hat
    · left; simpa [Value.ownBlock] using hat
    · right; simp [Value.ownBlock] at hat; omega
/-- The reader, and what it has. -/
def RdV (ρ : Part) (w : World) (base rb : Nat) (st : List Tr) (ps : List Nat) (vs : List (Value × Value)) (g c : Nat) : Prop :=
  w.heap[rb]? = some (.cells #[.slice (some ⟨g, 0, none⟩) st.length c] 125 (0, 0)) ∧ base ≤ rb ∧ ρ rb = (6, 0) ∧ RowP w base g st.length c (ptrCells ps) ∧ ρ g = (1, 0) ∧ OpenP ρ w base st ps vs
/-- What a piece's taking leaves of all others. -/
def Fix (j : Nat) (r : Nat × Nat) : Prop := r = (7, 0) ∨ (r.1 = 5 ∧ r.2 ≠ j)
def StepR (base j : Nat) (ρ ρ' : Part) (w w' : World) : Prop :=
  Below base w w' ∧ w.heap.size ≤ w'.heap.size ∧ ∀ g, base ≤ g → g < w.heap.size → Fix j (ρ g) → ρ' g = ρ g ∧ w'.heap[g]? = w.heap[g]?
end Go.Proofs.YtjldpkhfiffinaaGreatDoor.U

namespace Go.Proofs.YtjldpkhfiffinaaGreatDoor.U
open Go.RowKit
/-- A child behind the others. -/
theorem RdV.kid {ρ : Part} {w w4 : World} {base rb p g c : Nat} {t T : Tr} {r : List Tr} {qs : List Nat} {va vk vk' : Value} {q : List (Value × Value)} {hs : List Value} (h : RdV ρ w base rb (t :: r) (p :: qs) ((va, vk) :: q) g c)
    (hT : TreeS (fun g => base ≤ g ∧ ρ g = (0, 0)) w T hs) (hsz : w.heap.size ≤ w4.heap.size)
    (heq : ∀ b, b < w.heap.size → b ≠ p → some b ≠ vk.ownBlock → w4.heap[b]? = w.heap[b]?)
    (hat : vk'.ownBlock = vk.ownBlock ∨ ∃ b, vk'.ownBlock = some b ∧ w.heap.size ≤ b)
    (hk : ∀ xs, w.ownsRow base 27 4 vk (trK t).length xs → w4.ownsRow base 27 4 vk' ((trK t).length + 1) (xs ++ hs))
    (hb : Box4 p ⟨(trL t).toArray⟩ ⟨(trX t).toArray⟩ va vk' w4) :
    ∃ ρ', RdV ρ' w4 base rb (.node (trL t) (trX t) (trA t) (trK t ++ [T]) :: r) (p :: qs) ((va, vk') :: q) g c ∧ ∀ b, b < w.heap.size → ρ' b = ρ b := by
  obtain ⟨h1, h2, h3, h4, h5, h6⟩ := h
  have hrb : rb < w.heap.size := (Array.getElem?_eq_some_iff.1 h1).1
  rw [OpenP] at h6
  obtain ⟨p0, va0, vk0, qs0, q0, lk, e1, e2, k1, k2, k3, k4, k5, k6, k7, k8, k9⟩ := h6
  simp only [List.cons.injEq, Prod.mk.injEq] at e1 e2
  obtain ⟨rfl, rfl⟩ := e1
  obtain ⟨⟨rfl, rfl⟩, rfl⟩ := e2
  obtain ⟨ρ', hρ⟩ : ∃ ρ' : Part, ρ' = fun b => if vk'.ownBlock = some b then (4, r.length) else ρ b := ⟨_, rfl⟩
  have hold : ∀ b, b < w.heap.size → ρ' b = ρ b := fun b hb => by
    rw [hρ]
    simp only
    split
    · next e =>
      rcases hat with h | ⟨b', h, hb'⟩
      · rw [h] at e; exact (k7 b e).symm
      · rw [h] at e; injection e with e; omega
    · rfl
  have hst : Still base r.length ρ ρ' w w4 := fun b h7 h8 h9 => by
    refine ⟨hold b h8, heq b h8 (fun e => ?_) (fun e => ?_)⟩
    · subst e
      rw [k3] at h9
      rcases h9 with h9 | h9
      · simp at h9
      · simp at h9
    · have := k7 b e.symm
      rw [this] at h9
      rcases h9 with h9 | h9
      · simp at h9
      · simp at h9
  have hne : ∀ b, ρ b = (6, 0) ∨ ρ b = (1, 0) ∨ (∃ i, ρ b = (3, i)) → b < w.heap.size → w4.heap[b]? = w.heap[b]? := fun b h7 h8 => by
    refine heq b h8 (fun e => ?_) (fun e => ?_)
    · subst e
      rw [k3] at h7
      rcases h7 with h7 | h7 | ⟨i, h7⟩ <;> simp at h7
    · have := k7 b e.symm
      rw [this] at h7
      rcases h7 with h7 | h7 | ⟨i, h7⟩ <;> simp at h7
  refine ⟨ρ', ⟨(hne rb (.inl h3) hrb).trans h1, h2, by rw [hold rb hrb]; exact h3, h4.keep (hne g (.inr (.inl h5)) h4.lt), by rw [hold g h4.lt]; exact h5, ?_⟩, hold⟩
  rw [OpenP]
  refine ⟨p, va, vk', qs, q, lk ++ [hs], rfl, rfl, hb, k2, by rw [hold p k1.lt]; exact k3, own_heap k4 (fun b hb => hne b (.inr (.inr ⟨_, k5 b hb⟩)) (k4.lt b hb).2), fun b hb => by rw [hold b (k4.lt b hb).2]; exact k5 b hb, ?_, fun b hb => ?_, KidsS.snoc (tree_still hT hsz hst) (kids_still k8 hsz hst), OpenP.keep hsz k9 hst⟩
  · rw [show trK (.node (trL t) (trX t) (trA t) (trK t ++ [T])) = trK t ++ [T] from rfl, List.length_append, List.flatten_append, List.flatten_singleton]
    exact hk _ k6
  · rw [hρ]; simp only; rw [if_pos hb]
/-- One more is open. -/
theorem RdV.push {ρ : Part} {w w3 : World} {base rb pb j g c g' c' : Nat} {st : List Tr} {ps : List Nat} {vs : List (Value × Value)} {va : Value} (nm : List UInt8) (al : List (List UInt8 × List UInt8)) (h : RdV ρ w base rb st ps vs g c) (hsz : w.heap.size ≤ w3.heap.size)
    (heq : ∀ b, b < w.heap.size → b ≠ rb → b ≠ g → ρ b ≠ (5, j) → w3.heap[b]? = w.heap[b]?)
    (hpb : w.heap.size ≤ pb) (hbox : Box4 pb ⟨nm.toArray⟩ ⟨#[]⟩ va (.slice none 0 0) w3) (hva : w3.ownsRow base 82 2 va al.length (attrCells al)) (hvb : ∀ b, va.ownBlock = some b → ρ b = (5, j) ∧ b < w.heap.size)
    (hrow : RowP w3 base g' (st.length + 1) c' (ptrCells ps ++ [ptrV pb])) (hg' : g' = g ∨ w.heap.size ≤ g') (hgp : g' ≠ pb)
    (hrd : w3.heap[rb]? = some (.cells #[.slice (some ⟨g', 0, none⟩) (st.length + 1) c'] 125 (0, 0))) :
    ∃ ρ', RdV ρ' w3 base rb (.node nm [] al [] :: st) (pb :: ps) ((va, .slice none 0 0) :: vs) g' c' ∧ ∀ b, b < w.heap.size → ρ b ≠ (5, j) → ρ' b = ρ b := by
  obtain ⟨h1, h2, h3, h4, h5, h6⟩ := h
  have hrb : rb < w.heap.size := (Array.getElem?_eq_some_iff.1 h1).1
  have hgl := h4.lt
  obtain ⟨ρ', hρ⟩ : ∃ ρ' : Part, ρ' = fun b => if b = pb then (2, st.length) else if b = g' then (1, 0) else if ρ b = (5, j) then (3, st.length) else ρ b := ⟨_, rfl⟩
  have hold : ∀ b, b < w.heap.size → ρ b ≠ (5, j) → ρ' b = ρ b := fun b hb h7 => by
    rw [hρ]
    simp only
    rw [if_neg (by omega)]
    split
    · next e =>
      rcases hg' with h | h
      · rw [e, h]; exact h5.symm
      · omega
    · first | rfl | rw [if_neg h7]
  have hst : Still base st.length ρ ρ' w w3 := fun b h7 h8 h9 => by
    have hj : ρ b ≠ (5, j) := fun e => by
      rw [e] at h9
      rcases h9 with h9 | h9
      · simp at h9
      · simp at h9
    refine ⟨hold b h8 hj, heq b h8 (fun e => ?_) (fun e => ?_) hj⟩
    · subst e
      rw [h3] at h9
      rcases h9 with h9 | h9
      · simp at h9
      · simp at h9
    · subst e
      rw [h5] at h9
      rcases h9 with h9 | h9
      · simp at h9
      · simp at h9
  have hgr : g' ≠ rb := fun e => by
    rcases hg' with h | h
    · rw [← h, e, h3] at h5; simp at h5
    · omega
  refine ⟨ρ', ⟨by rw [List.length_cons]; exact hrd, h2, by rw [hold rb hrb (by rw [h3]; simp)]; exact h3, by rw [List.length_cons, ptrCells_cons]; exact hrow, by rw [hρ]; simp only; rw [if_neg hgp, if_pos trivial], ?_⟩, hold⟩
  have hb0 : base ≤ w.heap.size := by omega
  rw [OpenP]
  refine ⟨pb, va, .slice none 0 0, ps, vs, [], rfl, rfl, hbox, by omega, by rw [hρ]; simp, hva, fun b hb => ?_, World.ownsRow_nil _ _ _ _, fun b hb => by simp [Value.ownBlock] at hb, by rw [show trK (.node nm [] al []) = [] from rfl, KidsS], OpenP.keep hsz h6 hst⟩
  obtain ⟨h7, h8⟩ := hvb b hb
  rw [hρ]
  simp only
  rw [if_neg (by omega), if_neg ?_, if_pos h7]
  rintro rfl
  rcases hg' with h | h
  · rw [h, h5] at h7; simp at h7
  · omega
/-- The last one that is open is closed. -/
theorem RdV.pop {ρ : Part} {w w' : World} {base rb p g c : Nat} {t u : Tr} {r : List Tr} {qs : List Nat} {va vk : Value} {q : List (Value × Value)} (h : RdV ρ w base rb (t :: u :: r) (p :: qs) ((va, vk) :: q) g c)
    (hsz : w.heap.size ≤ w'.heap.size) (heq : ∀ b, b < w.heap.size → b ≠ rb → w'.heap[b]? = w.heap[b]?)
    (hrd : w'.heap[rb]? = some (.cells #[.slice (some ⟨g, 0, none⟩) (u :: r).length (u :: r).length] 125 (0, 0))) :
    ∃ ρ', RdV ρ' w' base rb (u :: r) qs q g (u :: r).length ∧ TreeS (fun g => base ≤ g ∧ ρ' g = (0, 0)) w' t (headOf t (va, vk)) ∧ ∀ b, 5 ≤ (ρ b).1 → ρ' b = ρ b := by
  obtain ⟨h1, h2, h3, h4, h5, h6⟩ := h
  have hrb : rb < w.heap.size := (Array.getElem?_eq_some_iff.1 h1).1
  have hgl := h4.lt
  have hlen := h6.len
  rw [OpenP] at h6
  obtain ⟨p0, va0, vk0, qs0, q0, lk, e1, e2, k1, k2, k3, k4, k5, k6, k7, k8, k9⟩ := h6
  simp only [List.cons.injEq, Prod.mk.injEq] at e1 e2
  obtain ⟨rfl, rfl⟩ := e1
  obtain ⟨⟨rfl, rfl⟩, rfl⟩ := e2
  obtain ⟨ρ', hρ⟩ : ∃ ρ' : Part, ρ' = fun b => if ρ b = (3, (u :: r).length) ∨ ρ b = (4, (u :: r).length) then (0, 0) else ρ b := ⟨_, rfl⟩
  have hold : ∀ b, ρ b ≠ (3, (u :: r).length) → ρ b ≠ (4, (u :: r).length) → ρ' b = ρ b := fun b h7 h8 => by
    rw [hρ]
    simp only
    rw [if_neg (by simp only [not_or]; exact ⟨h7, h8⟩)]
  have hst : Still base (u :: r).length ρ ρ' w w' := fun b h7 h8 h9 => by
    refine ⟨hold b (fun e => ?_) (fun e => ?_), heq b h8 (fun e => ?_)⟩
    · rw [e] at h9
      rcases h9 with h9 | h9
      · simp at h9
      · simp at h9
    · rw [e] at h9
      rcases h9 with h9 | h9
      · simp at h9
      · simp at h9
    · subst e
      rw [h3] at h9
      rcases h9 with h9 | h9
      · simp at h9
      · simp at h9
  have hgr : g ≠ rb := fun e => by rw [e, h3] at h5; simp at h5
  have hcut := (h4.keep (heq g hgl hgr)).cut (m := (u :: r).length) (by simp)
  have e4 : (ptrCells (p :: qs)).take (u :: r).length = ptrCells qs := by
    rw [ptrCells_cons, List.take_left']
    rw [ptrCells_len]
    simpa using hlen
  rw [e4] at hcut
  refine ⟨ρ', ⟨hrd, h2, by rw [hold rb (by rw [h3]; simp) (by rw [h3]; simp)]; exact h3, hcut, by rw [hold g (by rw [h5]; simp) (by rw [h5]; simp)]; exact h5, OpenP.keep hsz k9 hst⟩, ?_, fun b hb => hold b (fun e => by rw [e] at hb; simp at hb) (fun e => by rw [e] at hb; simp at hb)⟩
  have za : ∀ b, va.ownBlock = some b → base ≤ b ∧ ρ' b = (0, 0) := fun b hb => ⟨(k4.lt b hb).1, by rw [hρ]; simp only; rw [if_pos (.inl (k5 b hb))]⟩
  have zk : ∀ b, vk.ownBlock = some b → base ≤ b ∧ ρ' b = (0, 0) := fun b hb => ⟨(k6.lt b hb).1, by rw [hρ]; simp only; rw [if_pos (.inr (k7 b hb))]⟩
  have sa : w'.ownsRow base 82 2 va (trA t).length (attrCells (trA t)) := own_heap k4 (fun b hb => heq b (k4.lt b hb).2 (fun e => by have := k5 b hb; rw [e, h3] at this; simp at this))
  have sk : w'.ownsRow base 27 4 vk (trK t).length lk.flatten := own_heap k6 (fun b hb => heq b (k6.lt b hb).2 (fun e => by have := k7 b hb; rw [e, h3] at this; simp at this))
  obtain ⟨lb, tx, al, ks⟩ := t
  rw [TreeS.eq]
  exact ⟨va, vk, rfl, AtRowS.of_own sa za, lk, kids_still k8 hsz hst, AtRowS.of_own sk zk⟩
theorem KidsS.split {S : Nat → Prop} {w : World} {T : Tr} : ∀ {ks : List Tr} {l : List (List Value)}, KidsS S w (ks ++ [T]) l → ∃ q h, l = q ++ [h] ∧ KidsS S w ks q ∧ TreeS S w T h ∧ q.flatten.length = ks.length * 4 := by
  intro ks
  induction ks with
  | nil =>
    intro l h
    rw [List.nil_append, KidsS] at h
    obtain ⟨a, q, rfl, h1, h2⟩ := h
    rw [KidsS] at h2
    subst h2
    exact ⟨[], a, rfl, by rw [KidsS], h1, rfl⟩
  | cons t r ih =>
    intro l h
    rw [List.cons_append, KidsS] at h
    obtain ⟨a, q, rfl, h1, h2⟩ := h
    obtain ⟨q2, b, rfl, h3, h4, h5⟩ := ih h2
    refine ⟨a :: q2, b, rfl, ?_, h4, ?_⟩
    · rw [KidsS]; exact ⟨a, q2, rfl, h1, h3⟩
    · obtain ⟨_, _, _, _, _, _, _, _, h6⟩ := h1.four
      rw [List.flatten_cons, List.length_append, h5, h6]
      simp
      omega
/-- A text goes on. -/
theorem RdV.more {ρ : Part} {w : World} {base rb p g c b n cc : Nat} {t : Tr} {r : List Tr} {qs : List Nat} {va : Value} {q : List (Value × Value)} {ks : List Tr} {tx : List UInt8} (x : List UInt8) (h : RdV ρ w base rb (t :: r) (p :: qs) ((va, .slice (some ⟨b, 0, none⟩) n cc) :: q) g c) (hk : trK t = ks ++ [.node [] tx [] []]) :
    RdV ρ (w.setCell ⟨b, ks.length * 4 + 1, none⟩ (.string ⟨(tx ++ x).toArray⟩)) base rb (.node (trL t) (trX t) (trA t) (ks ++ [.node [] (tx ++ x) [] []]) :: r) (p :: qs) ((va, .slice (some ⟨b, 0, none⟩) n cc) :: q) g c ∧ ρ b = (4, r.length) ∧ w.cell? ⟨b, ks.length * 4, none⟩ = some (.string ⟨#[]⟩) ∧ w.cell? ⟨b, ks.length * 4 + 1, none⟩ = some (.string ⟨tx.toArray⟩) := by
  obtain ⟨h1, h2, h3, h4, h5, h6⟩ := h
  rw [OpenP] at h6
  obtain ⟨p0, va0, vk0, qs0, q0, lk, e1, e2, k1, k2, k3, k4, k5, k6, k7, k8, k9⟩ := h6
  simp only [List.cons.injEq, Prod.mk.injEq] at e1 e2
  obtain ⟨rfl, rfl⟩ := e1
  obtain ⟨⟨rfl, rfl⟩, rfl⟩ := e2
  have hb : ρ b = (4, r.length) := k7 b rfl
  have hg := grownBy_setAt w b (ks.length * 4 + 1) (.string ⟨(tx ++ x).toArray⟩)
  have heq : ∀ a, a < w.heap.size → ρ a ≠ (4, r.length) → (w.setCell ⟨b, ks.length * 4 + 1, none⟩ (.string ⟨(tx ++ x).toArray⟩)).heap[a]? = w.heap[a]? := fun a h7 h8 => hg.block a h7 (fun e => h8 (by cases e; exact hb))
  have hst : Still base r.length ρ ρ w (w.setCell ⟨b, ks.length * 4 + 1, none⟩ (.string ⟨(tx ++ x).toArray⟩)) := fun a h7 h8 h9 => ⟨rfl, heq a h8 (fun e => by
    rw [e] at h9
    rcases h9 with h9 | h9
    · simp at h9
    · simp at h9)⟩
  have hrb : rb < w.heap.size := (Array.getElem?_eq_some_iff.1 h1).1
  rw [hk] at k6 k8
  obtain ⟨lq, hs, rfl, l1, l2, l3⟩ := k8.split
  rw [TreeS.eq] at l2
  obtain ⟨va2, vk2, rfl, l4, l5⟩ := l2
  obtain rfl : n = (ks ++ [Tr.node [] tx [] []]).length := by
    obtain ⟨a0, c0, e⟩ := own_sl k6
    injection e
  have hc := k6.cells rfl
  have lcell : ∀ i v, ([.string ⟨#[]⟩, .string ⟨tx.toArray⟩, va2, vk2] : List Value)[i]? = some v → w.cell? ⟨b, ks.length * 4 + i, none⟩ = some v := fun i v hi => by
    have h9 := hc (ks.length * 4 + i) v (by
      rw [List.flatten_append, List.getElem?_append_right (by omega), l3, Nat.add_sub_cancel_left, List.flatten_singleton]
      exact hi)
    rw [add_zero_at] at h9
    exact h9
  refine ⟨⟨(heq rb hrb (by rw [h3]; simp)).trans h1, h2, h3, h4.keep (heq g h4.lt (by rw [h5]; simp)), h5, ?_⟩, hb, lcell 0 _ rfl, lcell 1 _ rfl⟩
  rw [OpenP]
  refine ⟨p, va, _, qs, q, lq ++ [[.string ⟨#[]⟩, .string ⟨(tx ++ x).toArray⟩, va2, vk2]], rfl, rfl, (heq p k1.lt (by rw [k3]; simp)).trans k1, k2, k3, own_heap k4 (fun a ha => heq a (k4.lt a ha).2 (by rw [k5 a ha]; simp)), k5, ?_, k7, ?_, OpenP.keep hg.size k9 hst⟩
  · have hu := own_upd (i := ks.length * 4 + 1) (u := .string ⟨(tx ++ x).toArray⟩) k6 (by rw [List.length_append, List.length_singleton]; omega)
    have e : (lq ++ [[.string ⟨#[]⟩, .string ⟨tx.toArray⟩, va2, vk2]]).flatten.set (ks.length * 4 + 1) (.string ⟨(tx ++ x).toArray⟩) = (lq ++ [[.string ⟨#[]⟩, .string ⟨(tx ++ x).toArray⟩, va2, vk2]]).flatten := by
      rw [List.flatten_append, List.flatten_append, List.set_append_right _ _ (by omega), l3, Nat.add_sub_cancel_left]
      rfl
    rw [e] at hu
    rw [show trK (.node (trL t) (trX t) (trA t) (ks ++ [Tr.node [] (tx ++ x) [] []])) = ks ++ [Tr.node [] (tx ++ x) [] []] from rfl]
    simp only [List.length_append, List.length_singleton] at hu ⊢
    exact hu
  · refine KidsS.snoc ?_ (kids_still l1 hg.size hst)
    have l6 : TreeS (fun g => base ≤ g ∧ ρ g = (0, 0)) w (.node [] (tx ++ x) [] []) [.string ⟨#[]⟩, .string ⟨(tx ++ x).toArray⟩, va2, vk2] := by
      rw [TreeS.eq]
      exact ⟨va2, vk2, rfl, l4, l5⟩
    exact tree_still l6 hg.size hst
/-- The stack of what is open. -/
def stk (fs : List Fr) (root : Option Tr) : List Tr := fs.map (fun f => .node f.lb [] f.al f.kids) ++ [.node [] [] [] root.toList]
theorem stk_len (fs : List Fr) (root : Option Tr) : (stk fs root).length = fs.length + 1 := by simp [stk]
theorem stk_add {T : Tr} {fs : List Fr} {root : Option Tr} (h : fs = [] → root = none) {t : Tr} {r : List Tr} (hs : stk fs root = t :: r) : stk (addTr T fs root).1 (addTr T fs root).2 = .node (trL t) (trX t) (trA t) (trK t ++ [T]) :: r := by
  cases fs with
  | nil =>
    rw [h rfl] at hs ⊢
    simp only [stk, List.map_nil, List.nil_append, List.cons.injEq, Option.toList_none] at hs
    obtain ⟨rfl, rfl⟩ := hs
    simp [stk, addTr, trL, trX, trA, trK]
  | cons f q =>
    simp only [stk, List.map_cons, List.cons_append, List.cons.injEq] at hs
    obtain ⟨rfl, rfl⟩ := hs
    simp [stk, addTr, trL, trX, trA, trK]
end Go.Proofs.YtjldpkhfiffinaaGreatDoor.U

namespace Go.Proofs.YtjldpkhfiffinaaGreatDoor.U
open Go.RowKit
theorem RdV.lt {ρ : Part} {w : World} {base rb g c : Nat} {st : List Tr} {ps : List Nat} {vs : List (Value × Value)} (h : RdV ρ w base rb st ps vs g c) : rb < w.heap.size := (Array.getElem?_eq_some_iff.1 h.1).1
theorem RdV.below {ρ : Part} {w w' : World} {base rb g c : Nat} {st : List Tr} {ps : List Nat} {vs : List (Value × Value)} (h : RdV ρ w base rb st ps vs g c) (hb : Below w.heap.size w w') : RdV ρ w' base rb st ps vs g c := by
  have hl := h.lt
  obtain ⟨h1, h2, h3, h4, h5, h6⟩ := h
  exact ⟨(hb.block rb hl).trans h1, h2, h3, h4.keep (hb.block g h4.lt), h5, h6.keep hb.size (fun a _ ha _ => ⟨rfl, hb.block a ha⟩)⟩
theorem RdV.at {ρ : Part} {w : World} {base rb g c : Nat} {st : List Tr} {ps : List Nat} {vs : List (Value × Value)} (h : RdV ρ w base rb st ps vs g c) : w.cell? ⟨rb, 0, none⟩ = some (.slice (some ⟨g, 0, none⟩) st.length c) ∧ w.frozen? ⟨rb, 0, none⟩ = false ∧ st.length ≤ maxLen ∧ st.length ≤ c := by
  obtain ⟨h1, _, _, ⟨cur, _, _, h4, _, h6, _⟩, _⟩ := h
  exact ⟨by rw [Lib.cell_of_heap h1]; rfl, Lib.frozen_of_heap h1 0, by omega, h4⟩
theorem RdV.tops {ρ : Part} {w : World} {base rb g c p : Nat} {t : Tr} {r : List Tr} {qs : List Nat} {va vk : Value} {q : List (Value × Value)} (h : RdV ρ w base rb (t :: r) (p :: qs) ((va, vk) :: q) g c) : w.cell? ⟨g, r.length, none⟩ = some (.pointer (some ⟨p, 0, none⟩)) ∧ Box4 p ⟨(trL t).toArray⟩ ⟨(trX t).toArray⟩ va vk w ∧ w.ownsRow base 82 2 va (trA t).length (attrCells (trA t)) ∧ ρ p = (2, r.length) ∧ (∀ b, vk.ownBlock = some b → ρ b = (4, r.length)) ∧ ∃ xs, w.ownsRow base 27 4 vk (trK t).length xs := by
  obtain ⟨_, _, _, h4, _, h6⟩ := h
  have hl := h6.len
  rw [OpenP] at h6
  obtain ⟨p0, va0, vk0, qs0, q0, lk, e1, e2, k1, k2, k3, k4, k5, k6, k7, _, _⟩ := h6
  simp only [List.cons.injEq, Prod.mk.injEq] at e1 e2
  obtain ⟨rfl, rfl⟩ := e1
  obtain ⟨⟨rfl, rfl⟩, rfl⟩ := e2
  refine ⟨h4.cell _ _ ?_, k1, k4, k3, k7, _, k6⟩
  have hq : qs.length = r.length := by simpa using hl
  rw [ptrCells_cons, List.getElem?_append_right (by rw [ptrCells_len]; omega), ptrCells_len, hq, Nat.sub_self]
  rfl
theorem OpenP.bot {ρ : Part} {w : World} {base : Nat} {t : Tr} : ∀ {st : List Tr} {ps : List Nat} {vs : List (Value × Value)}, OpenP ρ w base (st ++ [t]) ps vs → ∃ p a cc, (ptrCells ps)[0]? = some (ptrV p) ∧ w.cell? ⟨p, 3, none⟩ = some (.slice a (trK t).length cc) := by
  intro st
  induction st with
  | nil =>
    intro ps vs h
    rw [List.nil_append, OpenP] at h
    obtain ⟨p, va, vk, qs, q, lk, rfl, rfl, k1, _, _, _, _, k6, _, _, k9⟩ := h
    rw [OpenP] at k9
    obtain ⟨rfl, rfl⟩ := k9
    obtain ⟨a, cc, rfl⟩ := own_sl k6
    exact ⟨p, a, cc, rfl, k1.at.2.2.2⟩
  | cons u r ih =>
    intro ps vs h
    rw [List.cons_append, OpenP] at h
    obtain ⟨p, va, vk, qs, q, lk, rfl, rfl, _, _, _, _, _, _, _, _, k9⟩ := h
    obtain ⟨p0, a, cc, h1, h2⟩ := ih k9
    refine ⟨p0, a, cc, ?_, h2⟩
    have := (List.getElem?_eq_some_iff.1 h1).1
    rw [ptrCells_cons, List.getElem?_append_left this]
    exact h1
theorem RdV.bottom {ρ : Part} {w : World} {base rb g c : Nat} {fs : List Fr} {root : Option Tr} {ps : List Nat} {vs : List (Value × Value)} (h : RdV ρ w base rb (stk fs root) ps vs g c) : ∃ p a cc, w.cell? ⟨g, 0, none⟩ = some (.pointer (some ⟨p, 0, none⟩)) ∧ w.cell? ⟨p, 3, none⟩ = some (.slice a root.toList.length cc) := by
  obtain ⟨_, _, _, h4, _, h6⟩ := h
  obtain ⟨p, a, cc, h1, h2⟩ := OpenP.bot (st := fs.map (fun f => .node f.lb [] f.al f.kids)) (t := .node [] [] [] root.toList) h6
  exact ⟨p, a, cc, h4.cell _ _ h1, h2⟩
set_option maxHeartbeats 2000000 in
theorem top_any {ρ : Part} {w : World} {base rb g c p : Nat} {t : Tr} {r : List Tr} {qs : List Nat} {va vk : Value} {q : List (Value × Value)} (h : RdV ρ w base rb (t :: r) (p :: qs) ((va, vk) :: q) g c) :
    Calls Tryz.prog 62 #[.pointer (some ⟨rb, 0, none⟩)] w fun e w' => e = .returned (.pointer (some ⟨p, 0, none⟩)) ∧ Below w.heap.size w w' := by
  obtain ⟨x0, _, x1, x2⟩ := h.at
  obtain ⟨x3, _⟩ := h.tops
  obtain ⟨m, hm⟩ : ∃ m, m = r.length := ⟨_, rfl⟩
  rw [List.length_cons, ← hm] at x0 x1 x2
  rw [← hm] at x3
  unfold maxLen at x1
  have hmw : IntKind.i64.wrap (m : Int) = m := wrap_small _ (by omega) (by omega)
  have hm0 : (0 : Int) ≤ m := by omega
  have hm1 : (m : Int) < (m : Int) + 1 := by omega
  clear h hm
  go_enter Tryz.func62, Tryz.ntmps62
  go_wp2_with fail
  go_quiet (fail)
  go_wp2
  go_ret
  exact ⟨rfl, below_drewN (Below.refl _ w) _⟩
theorem outside_any {ρ : Part} {w : World} {base rb g c : Nat} {st : List Tr} {ps : List Nat} {vs : List (Value × Value)} (h : RdV ρ w base rb st ps vs g c) :
    Calls Tryz.prog 140 #[.pointer (some ⟨rb, 0, none⟩)] w fun e w' => e = .returned (.bool (decide (st.length = 1))) ∧ Below w.heap.size w w' := by
  obtain ⟨x0, _⟩ := h.at
  obtain ⟨m, hm⟩ : ∃ m, m = st.length := ⟨_, rfl⟩
  rw [← hm] at x0 ⊢
  clear h hm
  have hb : ((m : Int) == 1) = decide (m = 1) := by by_cases h : m = 1 <;> simp [h]; omega
  go_enter Tryz.func140, Tryz.ntmps140
  go_wp2
  go_ret
  exact ⟨by rw [← hb]; rfl, Below.refl _ w⟩
set_option maxHeartbeats 2000000 in
theorem whole_any {ρ : Part} {w : World} {base rb g c : Nat} {fs : List Fr} {root : Option Tr} {ps : List Nat} {vs : List (Value × Value)} (h : RdV ρ w base rb (stk fs root) ps vs g c) :
    Calls Tryz.prog 61 #[.pointer (some ⟨rb, 0, none⟩)] w fun e w' => e = .returned (.bool root.isSome) ∧ Below w.heap.size w w' := by
  obtain ⟨x0, _⟩ := h.at
  obtain ⟨p, a, cc, x1, x2⟩ := h.bottom
  obtain ⟨m, hm⟩ : ∃ m, m = fs.length := ⟨_, rfl⟩
  rw [stk_len, ← hm] at x0
  have hm1 : (0 : Int) < (m : Int) + 1 := by omega
  have hm2 : 0 < m + 1 := by omega
  clear h hm
  cases root with
  | none =>
    simp only [Option.toList_none, List.length_nil] at x2
    go_enter Tryz.func61, Tryz.ntmps61
    go_wp2
    go_ret
    exact ⟨rfl, Below.refl _ w⟩
  | some u =>
    simp only [Option.toList_some, List.length_singleton] at x2
    go_enter Tryz.func61, Tryz.ntmps61
    go_wp2
    go_ret
    exact ⟨rfl, Below.refl _ w⟩
/-- A piece, as a value. -/
def tokV (t : Tok) (v : Value) : Value := .agg (tokCells t v)
theorem pass_any (rb : Nat) (t : Tok) (v : Value) (w : World) :
    Calls Tryz.prog 112 #[.pointer (some ⟨rb, 0, none⟩), tokV t v] w fun e w' => e = .returned (.bool true) ∧ Below w.heap.size w w' := by
  unfold tokV tokCells
  go_enter Tryz.func112, Tryz.ntmps112
  go_wp2
  go_ret
  exact ⟨rfl, (Below.refl _ w).alloc (Nat.le_refl _) _⟩
/-- What takes a piece of a kind. -/
def takerF (k : Int) : Nat := if k = 2 then 109 else if k = 3 then 110 else if k = 4 then 111 else 112
theorem taker_any (rb : Nat) (k : Int) (w : World) :
    Calls Tryz.prog 60 #[.pointer (some ⟨rb, 0, none⟩), .int .i64 k] w fun e w' => e = .returned (.func (.func (takerF k)) #[.pointer (some ⟨rb, 0, none⟩)] #[]) ∧ w' = w := by
  unfold takerF
  by_cases h2 : k = 2
  · subst h2
    go_enter Tryz.func60, Tryz.ntmps60
    go_wp2
    go_ret
    exact ⟨rfl, rfl⟩
  · rw [if_neg h2]
    have b2 : (k == 2) = false := beq_eq_false_iff_ne.2 h2
    by_cases h3 : k = 3
    · subst h3
      go_enter Tryz.func60, Tryz.ntmps60
      go_wp2
      go_ret
      exact ⟨rfl, rfl⟩
    · rw [if_neg h3]
      have b3 : (k == 3) = false := beq_eq_false_iff_ne.2 h3
      by_cases h4 : k = 4
      · subst h4
        go_enter Tryz.func60, Tryz.ntmps60
        go_wp2
        go_ret
        exact ⟨rfl, rfl⟩
      · rw [if_neg h4]
        have b4 : (k == 4) = false := beq_eq_false_iff_ne.2 h4
        go_enter Tryz.func60, Tryz.ntmps60
        go_wp2
        go_ret
        exact ⟨rfl, rfl⟩
end Go.Proofs.YtjldpkhfiffinaaGreatDoor.U
