/- Walks: addRule. -/
import Derived.Test.YtbppbejigedioabGreatDoorBookX
import Derived.BigQuiet
import Derived.Deep.QuietTactic
import Derived.Deep.DeepCutAuto
namespace Go.Proofs.YtbppbejigedioabGreatDoor
open Go.RowKit

/-- Is an atom's class not named? -/
def unn (nm : Nat → Bool) (x : Cu.Atom) : Bool := decide (Cu.sk x.1 < 26) && !nm (Cu.sk x.1).toNat
def unnamedIn (nm : Nat → Bool) (l : List Cu.Atom) : Option Cu.Atom := l.find? (unn nm)
def Sgs (l : List Cu.Atom) : Prop := ∀ x ∈ l, 0 ≤ Cu.sk x.1

theorem signCells_append (l r : List Cu.Atom) : signCells l ++ signCells r = signCells (l ++ r) := by
  induction l with
  | nil => rfl
  | cons y l ih => simp [signCells, ih]
theorem signCells_get (l : List Cu.Atom) (i j : Nat) (hi : i < l.length) (hj : j < 2) : (signCells l)[i * 2 + j]? = ([.int .i64 (Cu.sk l[i].1), .int .i64 l[i].2.2] : List Value)[j]? := by
  induction l generalizing i with
  | nil => simp at hi
  | cons y l ih =>
    cases i with
    | zero => simp only [signCells, Nat.zero_mul, Nat.zero_add]; rw [List.getElem?_append_left (by simp; omega)]; rfl
    | succ i =>
      simp only [signCells]
      rw [List.getElem?_append_right (by simp; omega), show (i + 1) * 2 + j - [Value.int .i64 (Cu.sk y.1), Value.int .i64 y.2.2].length = i * 2 + j by simp; omega, ih i (by simpa using hi)]
      rfl
theorem sign_cells {w : World} {base cap : Nat} {l : List Cu.Atom} {a : Option Addr} (ho : w.ownsRow base 193 2 (.slice a l.length cap) l.length (signCells l)) (i : Nat) (hi : i < l.length) :
    ∃ g x, a = some ⟨g, 0, none⟩ ∧ l[i]? = some x ∧ g < w.heap.size ∧ w.cell? ⟨g, i * 2, none⟩ = some (.int .i64 (Cu.sk x.1)) ∧ w.cell? ⟨g, i * 2 + 1, none⟩ = some (.int .i64 x.2.2) := by
  rcases ho.2 with ⟨_, h2⟩ | ⟨g, cap', cur, hv, _, hh, h3, h4, _⟩
  · omega
  · simp only [Value.slice.injEq, true_and] at hv
    obtain ⟨rfl, rfl⟩ := hv
    have hc : ∀ j, j < 2 → w.cell? ⟨g, i * 2 + j, none⟩ = ([.int .i64 (Cu.sk l[i].1), .int .i64 l[i].2.2] : List Value)[j]? := fun j hj => by
      rw [ho.cellAt (i * 2 + j) (by omega), signCells_get l i j hi hj]
    exact ⟨g, l[i], rfl, by simp [hi], (Array.getElem?_eq_some_iff.1 hh).1, hc 0 (by omega), hc 1 (by omega)⟩

/-- What addRule answers. -/
def RuleAdded (w : World) (B : Nat) (nm : Nat → Bool) (its : List KItem) (rs : List PLn) (x : PLn) (e : Ending) (w' : World) : Prop :=
  (∃ p : Cu.Atom, unnamedIn nm (x.1.left ++ x.1.right) = some p ∧ e = .returned (.iface 99 (.agg #[.int .i64 5, .int .i64 p.2.2])) ∧ Below B w w') ∨
  (unnamedIn nm (x.1.left ++ x.1.right) = none ∧ e = .returned .nilIface ∧ BookAt w' B nm its (rs ++ [x]) ∧ Below B w w')

def AddCut (w : World) (all : List Cu.Atom) (lv : Value) (b : Bool) (rv : Value) (v n z : Value) (wc : World) : Prop :=
  ∃ (a : Option Addr) (cap : Nat), v = .slice a all.length cap ∧ n = .int .i64 all.length ∧ z = .int .i64 0 ∧ wc.ownsRow w.heap.size 193 2 (.slice a all.length cap) all.length (signCells all) ∧ Blk wc w.heap.size [lv, .bool b, rv] 126 ∧ Below w.heap.size w wc

theorem rule_facts {w w1 : World} {x y z : Value} {t : TypeId} {a1 ar : Option Addr} {n1 c1 nr cr : Nat} {xs1 xsr : List Value} (hb : Below ((w.alloc (.cells #[x, y, z] t)).drew).heap.size (w.alloc (.cells #[x, y, z] t)).drew w1)
    (ho : w1.ownsRow ((w.alloc (.cells #[x, y, z] t)).drew).heap.size 193 2 (.slice a1 n1 c1) n1 xs1) (hr : w.ownsRow 0 193 2 (.slice ar nr cr) nr xsr) :
    w1.cell? ⟨w.heap.size, 2, none⟩ = some z ∧ w.heap.size + 1 ≤ w1.heap.size ∧ Below w.heap.size w w1 ∧ Blk w1 w.heap.size [x, y, z] t ∧ w1.ownsRow w.heap.size 193 2 (.slice a1 n1 c1) n1 xs1 ∧ w1.ownsRow 0 193 2 (.slice ar nr cr) nr xsr := by
  have hs : ((w.alloc (.cells #[x, y, z] t)).drew).heap.size = w.heap.size + 1 := by
    show (w.alloc (.cells #[x, y, z] t)).heap.size = _
    simp
  have h1 : Blk (w.alloc (.cells #[x, y, z] t)).drew w.heap.size [x, y, z] t := Blk.new w [x, y, z] t
  have h2 := hb.size
  have h3 := h1.below hb (by omega)
  have h4 := below_two hb (below_one1 w (.cells #[x, y, z] t))
  exact ⟨h3.cell 2, by omega, h4, h3, own_base ho (by omega), own_below hr h4⟩
theorem add_done {w w2 w3 : World} {L R : List Cu.Atom} {x z : Value} {a a' : Option Addr} {cap cap' : Nat} {b : Bool} (ho : w3.ownsRow w.heap.size 193 2 (.slice a' (L.length + R.length) cap') (L.length + R.length) (signCells L ++ signCells R)) (hg : w2.grownBy w3 (Value.slice a L.length cap).ownBlock)
    (hb : Below w.heap.size w w2) (ho2 : w2.ownsRow w.heap.size 193 2 (.slice a L.length cap) L.length (signCells L)) (hk : Blk w2 w.heap.size [x, .bool b, z] 126) : AddCut w (L ++ R) x b z (.slice a' (L.length + R.length) cap') (.int .i64 ((L.length : Int) + R.length)) (.int .i64 0) w3 := by
  have hlen : (L ++ R).length = L.length + R.length := by simp
  exact ⟨a', cap', by rw [hlen], by rw [hlen]; go_num, rfl, by rw [hlen, ← signCells_append]; exact ho, hk.grown hg (hk.ne_row ho2 (by decide)), hb.grown hg hb.size (fun k hk => (ho2.lt k hk).1)⟩

theorem book_rule {w wr W w2 : World} {B : Nat} {nm : Nat → Bool} {its : List KItem} {rs : List PLn} {x : PLn} {ai ar a' : Option Addr} {ci cr cap' : Nat} {rt : Nat → Nat} (hBk : Blk wr B (bookCells nm (.slice ai its.length ci) (.slice ar rs.length cr) rt) 73) (hrt : ∀ k, k < 56 → rt k = rtOf (rs ++ [x]) k)
    (hI : wr.ownsRow B 108 4 (.slice ai its.length ci) its.length (kitemCells its)) (hR : wr.ownsRow B 126 3 (.slice ar rs.length cr) rs.length (ruleCells rs)) (hb : Below B w wr) (hW : Below wr.heap.size wr W)
    (ho : w2.ownsRow B 126 3 (.slice a' (rs.length + 1) cap') (rs.length + 1) (ruleCells (rs ++ [x]))) (hg : W.grownBy w2 (Value.slice ar rs.length cr).ownBlock) :
    Blk w2 B (bookCells nm (.slice ai its.length ci) (.slice ar rs.length cr) rt) 73 ∧ BookAt (w2.setCell ⟨B, 27, none⟩ (.slice a' (rs.length + 1) cap')) B nm its (rs ++ [x]) ∧ Below B w (w2.setCell ⟨B, 27, none⟩ (.slice a' (rs.length + 1) cap')) := by
  have hlen : (rs ++ [x]).length = rs.length + 1 := by simp
  have hlt := hBk.lt
  have h1 := hBk.below hW hlt
  have hRW := own_below hR hW
  have h2 := h1.grown hg (h1.ne_row hRW (by decide))
  have hI2 := own_grown hI hR (by decide) hW hg
  refine ⟨h2, ⟨ai, a', ci, cap', ?_, ?_, ?_⟩, ?_⟩
  · rw [hlen, ← bookCells_same _ _ _ hrt]; exact h2.setSame 27 _
  · exact own_set_ne hI2 _ _ (h2.ne_row hI2 (by decide))
  · rw [hlen]; exact own_set_ne ho _ _ (h2.ne_row ho (by decide))
  · have h3 := hb.size
    exact (((hb.trans (hW.mono (by omega))).grown hg (by have := hW.size; omega) (fun k hk => (hR.lt k hk).1)).setCell (Nat.le_refl _) _)
theorem oneR (t : TypeId) (v : Value) (b : Bool) (a : Option Addr) (n c : Nat) : ∀ u ∈ [Value.iface t v, .bool b, .slice a n c], u.oneCell' = true := by
  intro u hu
  simp at hu
  rcases hu with rfl | rfl | rfl <;> rfl

theorem grown_set (w : World) (b j : Nat) (u : Value) : w.grownBy (w.setCell ⟨b, j, none⟩ u) (some b) :=
  ⟨rfl, rfl, rfl, by simp [World.setCell], fun k _ hn => Below.heap_setCell _ _ _ _ (fun e => hn (by rw [e]))⟩

/-- One rule more. -/
def addRt (rt : Nat → Nat) (R : List Cu.Atom) (bit : Nat) : Nat → Nat := fun k => if rst R k then rt k ||| bit else rt k
theorem rst_at (R : List Cu.Atom) (i s : Nat) (hs : s < 28) : rst R (i * 28 + s) = ((R[i]?).map fun a => standB (Cu.sk a.1) ((s : Nat) : Int)).getD true := by
  unfold rst
  have e1 : (i * 28 + s) / 28 = i := by omega
  have e2 : (i * 28 + s) % 28 = s := by omega
  rw [e1, e2]
/-- The table is done up to n. -/
def RtRel (B : Nat) (nm : Nat → Bool) (vi vr : Value) (rt : Nat → Nat) (R : List Cu.Atom) (bit : Nat) (w : World) (n : Nat) (wr : World) : Prop :=
  ∃ rt' : Nat → Nat, Blk wr B (bookCells nm vi vr rt') 73 ∧ w.grownBy wr (some B) ∧ ∀ k, k < 56 → rt' k = if k < n then addRt rt R bit k else rt k
theorem rt_yes {B : Nat} {nm : Nat → Bool} {vi vr : Value} {rt rt' : Nat → Nat} {R : List Cu.Atom} {bit i s : Nat} {w wr W : World} (hi : i < 2) (hs : s < 28) (hB : Blk wr B (bookCells nm vi vr rt') 73) (hg : w.grownBy wr (some B)) (hr : ∀ k, k < 56 → rt' k = if k < i * 28 + s then addRt rt R bit k else rt k)
    (hW : Below wr.heap.size wr W) (hst : rst R (i * 28 + s) = true) : RtRel B nm vi vr rt R bit w (i * 28 + (s + 1)) (W.setCell ⟨B, 28 + i * 28 + s, none⟩ (.int .u16 ((rt' (i * 28 + s) ||| bit : Nat) : Int))) := by
  have hn : i * 28 + s < 56 := by omega
  refine ⟨setRt rt' (i * 28 + s) (rt' (i * 28 + s) ||| bit), ?_, grown_trans (grown_trans hg (grown_of_below hW _)) (grown_set _ _ _ _), ?_⟩
  · have h := (hB.below hW hB.lt).setSame (28 + i * 28 + s) (.int .u16 ((rt' (i * 28 + s) ||| bit : Nat) : Int))
    rw [Nat.add_assoc, bookCells_set _ _ _ _ _ _ hn] at h
    rw [Nat.add_assoc]
    exact h
  · intro k hk
    unfold setRt
    by_cases hkn : k = i * 28 + s
    · rw [if_pos hkn, if_pos (by omega), hkn, hr _ hn, if_neg (by omega)]
      unfold addRt
      rw [if_pos hst]
    · rw [if_neg hkn, hr k hk]
      by_cases h1 : k < i * 28 + s
      · rw [if_pos h1, if_pos (by omega)]
      · rw [if_neg h1, if_neg (by omega)]
theorem rt_no {B : Nat} {nm : Nat → Bool} {vi vr : Value} {rt rt' : Nat → Nat} {R : List Cu.Atom} {bit i s : Nat} {w wr W : World} (hB : Blk wr B (bookCells nm vi vr rt') 73) (hg : w.grownBy wr (some B)) (hr : ∀ k, k < 56 → rt' k = if k < i * 28 + s then addRt rt R bit k else rt k)
    (hW : Below wr.heap.size wr W) (hst : rst R (i * 28 + s) = false) : RtRel B nm vi vr rt R bit w (i * 28 + (s + 1)) W := by
  refine ⟨rt', hB.below hW hB.lt, grown_trans hg (grown_of_below hW _), ?_⟩
  intro k hk
  rw [hr k hk]
  by_cases hkn : k = i * 28 + s
  · rw [if_neg (by omega), if_pos (by omega), hkn]
    unfold addRt
    rw [hst]
    rfl
  · by_cases h1 : k < i * 28 + s
    · rw [if_pos h1, if_pos (by omega)]
    · rw [if_neg h1, if_neg (by omega)]

set_option maxRecDepth 100000 in
set_option maxHeartbeats 1000000 in
theorem addRight_any (R : List Cu.Atom) (ar : Option Addr) (cr base bit B : Nat) (nm : Nat → Bool) (vi vr : Value) (rt : Nat → Nat) (w : World) (hB : Blk w B (bookCells nm vi vr rt) 73) (hro : w.ownsRow base 193 2 (.slice ar R.length cr) R.length (signCells R)) (_hR : R.length ≤ 4) (hbit : bit < 65536) (hrt : ∀ k, rt k < 65536) :
    Calls Tryz.prog 115 #[.pointer (some ⟨B, 0, none⟩), .slice ar R.length cr, .int .u16 bit] w fun e w' => e = .returned (.tuple #[]) ∧ Blk w' B (bookCells nm vi vr (addRt rt R bit)) 73 ∧ w.grownBy w' (some B) := by
  have HRT := hide hrt
  have HRO := hide (fun (W : World) (hg : w.grownBy W (some B)) => hro.kept hg (Or.inr (fun h => hB.ne_row hro (by decide) h.symm)))
  have HB := hide hB
  clear hB hro hrt
  go_enter Tryz.func115, Tryz.ntmps115
  go_wp2
  go_loopw [8] (fun v wr => ∃ i : Nat, i ≤ 2 ∧ v = .int .i64 i ∧ RtRel B nm vi vr rt R bit w (i * 28) wr) (fun v _ => 3 - (intOf v).toNat)
  case atStart =>
    go_light
    exact ⟨0, by omega, rfl, rt, unhide HB, World.grownBy.refl _ _, fun k _ => by rw [if_neg (by omega)]⟩
  case round =>
    obtain ⟨i, hi, rfl, hrel⟩ := hrel
    by_cases hi2 : i < 2
    · have hi2i : (i : Int) < 2 := by omega
      have HREL := hide hrel
      clear hrel
      go_wp2
      go_loopw [11] (fun v wr => ∃ s : Nat, s ≤ 28 ∧ v = .int .i64 s ∧ RtRel B nm vi vr rt R bit w (i * 28 + s) wr) (fun v _ => 29 - (intOf v).toNat)
      case atStart =>
        go_light
        exact ⟨0, by omega, rfl, unhide HREL⟩
      case round =>
        obtain ⟨s, hs, rfl, rt', hBk, hg, hr⟩ := hrel
        have hBlt := hBk.lt
        by_cases hs2 : s < 28
        · have hs2i : (s : Int) < 28 := by omega
          have hbc : wr.cell? ⟨B, 28 + i * 28 + s, none⟩ = some (.int .u16 (rt' (i * 28 + s))) := by rw [hBk.cell, Nat.add_assoc, bookCells_right _ _ _ _ _ (by omega)]
          have hbf : wr.frozen? ⟨B, 28 + i * 28 + s, none⟩ = false := hBk.free _
          have hlt : rt' (i * 28 + s) < 65536 := by rw [hr _ (by omega), if_neg (by omega)]; exact unhide HRT _
          have hor : bits .or .u16 ((rt' (i * 28 + s) : Nat) : Int) (bit : Int) = ((rt' (i * 28 + s) ||| bit : Nat) : Int) := u16_or_nat _ _ hlt hbit
          have hra := rst_at R i s hs2
          by_cases hiR : i < R.length
          · obtain ⟨g, x, rfl, hx, hgl, c0, c1⟩ := sign_cells (unhide HRO wr hg) i hiR
            have hiRd : ¬ (R.length : Int) ≤ (i : Int) := by omega
            rw [hx] at hra
            simp only [Option.map_some, Option.getD_some] at hra
            cases hst : standB (Cu.sk x.1) (s : Int) with
            | true =>
              rw [hst] at hra
              have hfin := hide (fun (W : World) (hW : Below wr.heap.size wr W) => rt_yes (bit := bit) hi2 hs2 hBk hg hr hW hra)
              have hcall := fun W => stands_any (Cu.sk x.1) x.2.2 s W
              rw [hst] at hcall
              have HC := hide hcall
              clear hst hra hx hBk hg hr hcall
              go_wp2_with fail
              refine (unhide HC _).mono ?_
              rintro e w4 ⟨rfl, hb4⟩
              have hbc4 : w4.cell? ⟨B, 28 + i * 28 + s, none⟩ = some (.int .u16 (rt' (i * 28 + s))) := by rw [(bcell hb4).1 B _ hBlt]; exact hbc
              have hbf4 : w4.frozen? ⟨B, 28 + i * 28 + s, none⟩ = false := by rw [(bcell hb4).2 B _ hBlt]; exact hbf
              have HB4 := hide hb4
              clear hb4
              go_wp2
              go_region
              all_goals
                go_wp2
                go_roundw
                case rel => first | exact ⟨s + 1, by omega, by go_num, unhide hfin _ ((unhide HB4).drew)⟩ | ((repeat apply Exists.intro); exact ⟨⟨s + 1, by omega, by go_num, unhide hfin _ ((unhide HB4).drew)⟩, rfl⟩)
                case measure => simp [intOf]; omega
            | false =>
              rw [hst] at hra
              have hfin := hide (fun (W : World) (hW : Below wr.heap.size wr W) => rt_no (bit := bit) hBk hg hr hW hra)
              have hcall := fun W => stands_any (Cu.sk x.1) x.2.2 s W
              rw [hst] at hcall
              have HC := hide hcall
              clear hst hra hx hBk hg hr hcall
              go_wp2_with fail
              refine (unhide HC _).mono ?_
              rintro e w4 ⟨rfl, hb4⟩
              have HB4 := hide hb4
              clear hb4
              go_wp2
              go_roundw
              case rel => first | exact ⟨s + 1, by omega, by go_num, unhide hfin _ (unhide HB4)⟩ | ((repeat apply Exists.intro); exact ⟨⟨s + 1, by omega, by go_num, unhide hfin _ (unhide HB4)⟩, rfl⟩)
              case measure => simp [intOf]; omega
          · have hiRd : (R.length : Int) ≤ (i : Int) := by omega
            rw [List.getElem?_eq_none (by omega)] at hra
            have hra2 : rst R (i * 28 + s) = true := hra
            have hfin := hide (fun (W : World) (hW : Below wr.heap.size wr W) => rt_yes (bit := bit) hi2 hs2 hBk hg hr hW hra2)
            clear hra hra2 hBk hg hr
            go_wp2
            go_region
            all_goals
              go_wp2
              go_roundw
              case rel => first | exact ⟨s + 1, by omega, by go_num, unhide hfin _ ((Below.refl _ _).drew)⟩ | ((repeat apply Exists.intro); exact ⟨⟨s + 1, by omega, by go_num, unhide hfin _ ((Below.refl _ _).drew)⟩, rfl⟩)
              case measure => simp [intOf]; omega
        · have hs2i : ¬ (s : Int) < 28 := by omega
          have hfin : Hid (∃ m : Nat, m ≤ 2 ∧ Value.int .i64 ((i : Int) + 1) = .int .i64 m ∧ RtRel B nm vi vr rt R bit w (m * 28) wr) := hide ⟨i + 1, by omega, by go_num, rt', hBk, hg, fun k hk => by rw [hr k hk, show (i + 1) * 28 = i * 28 + s by omega]⟩
          clear hBk hg hr
          go_wp2
          go_roundw
          case rel => first | exact unhide hfin | ((repeat apply Exists.intro); exact ⟨unhide hfin, rfl⟩)
          case measure => simp [intOf]; omega
    · have hi2i : ¬ (i : Int) < 2 := by omega
      obtain ⟨rt', hBk, hg, hr⟩ := hrel
      have hfin : Hid (Blk wr B (bookCells nm vi vr (addRt rt R bit)) 73 ∧ w.grownBy wr (some B)) := hide ⟨by
        rw [← bookCells_same nm vi vr (rt := rt') (fun k hk => by rw [hr k hk, if_pos (by omega)])]
        exact hBk, hg⟩
      clear hBk hg hr
      go_wp2
      go_end0
      exact ⟨rfl, unhide hfin⟩

set_option maxRecDepth 100000 in
set_option maxHeartbeats 1000000 in
theorem addRule_any (x : PLn) (B : Nat) (nm : Nat → Bool) (its : List KItem) (rs : List PLn) (w : World) (hB : BookAt w B nm its rs) (hl : x.1.left.length ≤ 4) (hr : x.1.right.length ≤ 4) (hrs : rs.length ≤ 12) (hsg : Sgs (x.1.left ++ x.1.right))
    (hro : w.ownsRow 0 193 2 (.slice x.2.1 x.1.right.length x.2.2) x.1.right.length (signCells x.1.right)) :
    Calls Tryz.prog 77 #[.pointer (some ⟨B, 0, none⟩), .agg #[leftV x.1.left, .bool (x.1.op == 124), .slice x.2.1 x.1.right.length x.2.2]] w fun e w' => RuleAdded w B nm its rs x e w' := by
  obtain ⟨⟨name, items, op, L, R, at_⟩, ar, cr⟩ := x
  simp only at hl hr hsg hro ⊢
  generalize hop : (op == 124) = cut at *
  have hs0 := signs_any L hl
  obtain ⟨tl, vl, hvl⟩ := leftV_iface L
  rw [hvl] at hs0 ⊢
  have HS := hide hs0
  have HVL := hide hvl
  have HB := hide hB
  have hBlt := hB.lt
  have HRO := hide hro
  clear hs0 hvl hB hro
  obtain ⟨i0, ki, kz0, kz1, kz2⟩ := info_parts Tryz.info193
  have hcap : (L.length + R.length) * 16 ≤ 140737488355328 := by omega
  have hmax : L.length + R.length ≤ maxLen := by unfold maxLen; omega
  go_enter Tryz.func77, Tryz.ntmps77
  go_upto_region 1 with fail
  go_cut [12, 13, 14] (fun v n z wc => AddCut w (L ++ R) (.iface tl vl) cut (.slice ar R.length cr) v n z wc)
  case first =>
    go_region_law (first
      | (refine step_append_row rfl (.tmp 9) (.tmp 11) 124 rfl w.heap.size 193 i0 (.agg #[.int .i64 0, .int .i64 0]) 2 16 Tryz.underlying124 ki kz0 kz1 kz2 rfl (by decide) (.slice a1 L.length cap1) L.length (signCells L) (by simp [Act.eval]) (by exact unhide HO1) 0 ar R.length cr (signCells R) (by simp [Act.eval]) (by exact unhide HR1) (signCells_one _) hmax hcap (by omega) ?_; intro v' w3 hown' hgrow; obtain ⟨a', cap', hv'⟩ := own_form hown'; subst hv'; have hfin : Hid (AddCut w (L ++ R) (.iface tl vl) cut (.slice ar R.length cr) (.slice a' (L.length + R.length) cap') (.int .i64 ((L.length : Int) + R.length)) (.int .i64 0) w3) := hide (add_done hown' hgrow (unhide HB1) (unhide HO1) (unhide HK1)); clear hown' hgrow)
      | (go_simp; go_wp2_with (go_at_call 114; refine (unhide HS _).mono ?_; rintro e w1 ⟨a1, cap1, rfl, ho1, hb1⟩; obtain ⟨hc1, hs1, hB1, hK1, hO1, hR1⟩ := rule_facts hb1 ho1 (unhide HRO); have HB1 := hide hB1; have HK1 := hide hK1; have HO1 := hide hO1; have HR1 := hide hR1; clear ho1 hb1 hB1 hK1 hO1 hR1)))
    all_goals
      go_wp2_with fail
      go_meet
      case rel => exact unhide hfin
  case rest =>
    obtain ⟨a, cap, rfl, rfl, rfl, hown, hK, hbel⟩ := hcut
    have hlen : (L ++ R).length ≤ 8 := by simp; omega
    have HFI : Hid (∀ e w', (∃ p : Cu.Atom, unnamedIn nm (L ++ R) = some p ∧ e = Ending.returned (.iface 99 (.agg #[.int .i64 5, .int .i64 p.2.2])) ∧ Below B w w') ∨ (unnamedIn nm (L ++ R) = none ∧ e = .returned .nilIface ∧ BookAt w' B nm its (rs ++ [((⟨name, items, op, L, R, at_⟩ : Cu.Ln), ar, cr)]) ∧ Below B w w') → RuleAdded w B nm its rs ((⟨name, items, op, L, R, at_⟩ : Cu.Ln), ar, cr) e w') := hide (fun _ _ h => h)
    have HB1 := hide ((unhide HB).below hbel)
    have hwc := hbel.size
    have HBL := hide (hbel.mono (Nat.le_of_lt hBlt))
    have HO := hide hown
    have HK := hide hK
    have hKlt := hK.lt
    have HRC : Hid (ruleCells (rs ++ [((⟨name, items, op, L, R, at_⟩ : Cu.Ln), ar, cr)]) = ruleCells rs ++ [.iface tl vl, .bool cut, .slice ar R.length cr]) := hide (by rw [ruleCells_snoc, ← unhide HVL, ← hop])
    have HROc := hide (own_below (unhide HRO) hbel)
    clear hown hK hbel hop HS HRO
    generalize hal : L ++ R = al at *
    clear hal
    go_wp2
    go_loopw [14] (fun v wr => ∃ n : Nat, n ≤ al.length ∧ v = .int .i64 n ∧ Below wc.heap.size wc wr ∧ unnamedIn nm (al.take n) = none) (fun v _ => 9 - (intOf v).toNat)
    case atStart => exact ⟨0, by omega, rfl, Below.refl _ _, rfl⟩
    case round =>
      obtain ⟨n, hn, rfl, hb2, hno⟩ := hrel
      have HNO := hide hno
      have hwr := hb2.size
      obtain ⟨ai, ar', ci, cr', hBk, hoI, hoR⟩ := (unhide HB1).below hb2
      have HoI := hide hoI
      have HoR := hide hoR
      have HBK := hide hBk
      clear hno hoI hoR
      by_cases hlt : n < al.length
      · obtain ⟨g, x, rfl, hx, hg, c0, c1⟩ := sign_cells (own_below (unhide HO) hb2) n hlt
        have hsx := hsg x (List.mem_of_getElem? hx)
        obtain ⟨k, hk⟩ : ∃ k : Nat, Cu.sk x.1 = k := ⟨(Cu.sk x.1).toNat, by omega⟩
        rw [hk] at c0
        have HX := hide hx
        have HKK := hide hk
        clear hsx hx hk
        have hBr : B < wr.heap.size := by omega
        have hnB : B ≠ wr.heap.size := by omega
        have hng : g ≠ wr.heap.size := by omega
        by_cases h26 : k < 26
        · have hbk : wr.cell? ⟨B, k, none⟩ = some (.bool (nm k)) := by rw [hBk.cell k, bookCells_get _ _ _ _ _ h26]
          have h26i : (k : Int) < 26 := by omega
          clear hBk
          cases hnm : nm k with
          | false =>
            rw [hnm] at hbk
            have hfin : Hid (∀ w', Below wr.heap.size wr w' → RuleAdded w B nm its rs ((⟨name, items, op, L, R, at_⟩ : Cu.Ln), ar, cr) (.returned (.iface 99 (.agg #[.int .i64 5, .int .i64 x.2.2]))) w') := hide (fun w' hw' => unhide HFI _ _ (Or.inl ⟨x, by
              unfold unnamedIn
              refine Cu.find_some_at (unhide HX) (unhide HNO) ?_
              unfold unn
              rw [unhide HKK]
              simp [hnm, h26i], rfl, ((unhide HBL).trans (hb2.mono (by omega))).trans (hw'.mono (by omega))⟩))
            go_wp2
            go_quiet (fail)
            go_wp2
            go_ret
            exact unhide hfin _ (below_drewN ((Below.refl _ _).alloc (Nat.le_refl _) _) _)
          | true =>
            rw [hnm] at hbk
            have hnext : Hid (unnamedIn nm (al.take (n + 1)) = none) := hide (Cu.find_none_succ (unhide HX) (unhide HNO) (by unfold unn; rw [unhide HKK]; simp [hnm]))
            go_wp2
            go_quiet (fail)
            go_wp2
            go_roundw
            case rel =>
              have hb3 := below_drewN (hb2.alloc (Nat.le_trans (Nat.le_refl _) hwr) (.cells #[.int .i64 k, .int .i64 x.2.2] 193)) nq
              first | exact ⟨n + 1, by omega, by go_num, hb3, unhide hnext⟩ | ((repeat apply Exists.intro); exact ⟨⟨n + 1, by omega, by go_num, hb3, unhide hnext⟩, rfl⟩)
            case measure => simp [intOf]; omega
        · have h26i : decide ((k : Int) < 26) = false := by simp; omega
          have hnext : Hid (unnamedIn nm (al.take (n + 1)) = none) := hide (Cu.find_none_succ (unhide HX) (unhide HNO) (by unfold unn; rw [unhide HKK, h26i]; rfl))
          clear hBk h26
          go_wp2
          go_quiet (fail)
          go_wp2
          go_roundw
          case rel =>
            have hb3 := below_drewN (hb2.alloc (Nat.le_trans (Nat.le_refl _) hwr) (.cells #[.int .i64 k, .int .i64 x.2.2] 193)) nq
            first | exact ⟨n + 1, by omega, by go_num, hb3, unhide hnext⟩ | ((repeat apply Exists.intro); exact ⟨⟨n + 1, by omega, by go_num, hb3, unhide hnext⟩, rfl⟩)
          case measure => simp [intOf]; omega
      · have hfa : Hid (unnamedIn nm al = none) := hide (by rw [← unhide HNO, List.take_of_length_le (by omega)])
        obtain ⟨e0, e1, e2, e3⟩ := ((unhide HK).below hb2 hKlt).three
        have hb27 : wr.cell? ⟨B, 27, none⟩ = some (.slice ar' rs.length cr') := hBk.cell 27
        have hBr : B < wr.heap.size := by omega
        have hnB : B ≠ wr.heap.size := by omega
        obtain ⟨A, hAn⟩ : ∃ A : Nat, 2 ^ rs.length = A := ⟨_, rfl⟩
        have hA16 : A < 65536 := by rw [← hAn]; exact Nat.lt_of_le_of_lt (Nat.pow_le_pow_right (by decide) hrs) (by decide)
        have hA : IntKind.u16.wrap (2 ^ rs.length) = (A : Int) := by
          rw [IntKind.wrap_u16]
          have : ((2 : Int) ^ rs.length) = ((2 ^ rs.length : Nat) : Int) := by simp
          rw [this, hAn]
          omega
        have HRTN : Hid (∀ k, k < 56 → addRt (rtOf rs) R A k = rtOf (rs ++ [((⟨name, items, op, L, R, at_⟩ : Cu.Ln), ar, cr)]) k) := hide (fun k _ => by rw [rtOf_snoc, ← hAn]; rfl)
        have har := fun (W : World) (hW : Below wr.heap.size wr W) => addRight_any R ar cr 0 A B nm (.slice ai its.length ci) (.slice ar' rs.length cr') (rtOf rs) W ((unhide HBK).below hW hBr) (own_below (own_below (unhide HROc) hb2) hW) hr hA16 (fun k => rtOf_lt hrs k)
        have HAR := hide har
        have hneB : some B ≠ some w.heap.size := by simp; omega
        clear har hAn
        go_upto_region 7 with fail
        go_cut [45] (fun v wd => Blk wd B (bookCells nm (.slice ai its.length ci) (.slice ar' rs.length cr') (addRt (rtOf rs) R A)) 73 ∧ wr.grownBy wd (some B))
        case first =>
          go_region_with (go_at_call 115; refine (unhide HAR _ ((Below.refl _ _).drew)).mono ?_; rintro e w3 ⟨rfl, hb3, hg3⟩)
          all_goals
            go_wp2_with fail
            go_meet
            case rel => exact ⟨hb3, grown_trans (grown_of_below ((Below.refl _ _).drew) _) hg3⟩
        case rest =>
          obtain ⟨hBd, hgd⟩ := hcut
          have hBlr := ((unhide HK).below hb2 hKlt).grown hgd (fun h => hneB h.symm)
          obtain ⟨f0, f1, f2, f3⟩ := hBlr.three
          have HoId := hide ((unhide HoI).kept hgd (Or.inr (fun h => (unhide HBK).ne_row (unhide HoI) (by decide) h.symm)))
          have HoRd := hide ((unhide HoR).kept hgd (Or.inr (fun h => (unhide HBK).ne_row (unhide HoR) (by decide) h.symm)))
          have HBLd := hide (((unhide HBL).trans (hb2.mono (by omega))).grown hgd (Nat.le_of_lt hBr) (fun k hk => by simp at hk; omega))
          have hb27d : wc.cell? ⟨B, 27, none⟩ = some (.slice ar' rs.length cr') := hBd.cell 27
          have hBrd := hBd.lt
          have hnBd : B ≠ wc.heap.size := by omega
          have hwd := hgd.size
          have hKd : w.heap.size < wc.heap.size := by omega
          have hnKd : w.heap.size ≠ wc.heap.size := by omega
          have HBD := hide hBd
          have hcapR : (rs.length + 1) * 48 ≤ 140737488355328 := by omega
          have hmaxR : rs.length + 1 ≤ maxLen := by unfold maxLen; omega
          obtain ⟨j0, kj, jz0, jz1, jz2⟩ := info_parts Tryz.info126
          clear e0 e1 e2 e3 hb27 hBd hgd hBlr HAR
          go_wp2
          go_region_law (refine step_append_own rfl (.tmp 50) (.tmp 52) 67 rfl B 126 j0 (.agg #[.nilIface, .bool false, .slice none 0 0]) 3 48 Tryz.underlying67 kj jz0 jz1 jz2 rfl (by decide) (.slice ar' rs.length cr') rs.length (ruleCells rs) (by simp [Act.eval]) (by exact (unhide HoRd).alloc _) ⟨wc.heap.size, 0, none⟩ 1 1 [.iface tl vl, .bool cut, .slice ar R.length cr] (by simp [Act.eval]) rfl (by exact news_new _ _ rfl _ _) (oneR _ _ _ _ _ _) hmaxR hcapR (by simp; omega) ?_; intro v' w2 hown' hgrow; obtain ⟨a', cap', hv'⟩ := own_form hown'; subst hv'; rw [← unhide HRC] at hown'; obtain ⟨hBk2, hfin1, hfin2⟩ := book_rule (unhide HBD) (unhide HRTN) (unhide HoId) (unhide HoRd) (unhide HBLd) (below_one1 _ _) hown' hgrow; have HF1 := hide hfin1; have HF2 := hide hfin2; have hb27b : w2.cell? ⟨B, 27, none⟩ = some (.slice ar' rs.length cr') := hBk2.cell 27; have hb27f : w2.frozen? ⟨B, 27, none⟩ = false := hBk2.free 27; clear hfin1 hfin2 hown' hgrow hBk2)
          all_goals
            go_wp2
            go_ret
            exact unhide HFI _ _ (Or.inr ⟨unhide hfa, rfl, unhide HF1, unhide HF2⟩)
end Go.Proofs.YtbppbejigedioabGreatDoor
