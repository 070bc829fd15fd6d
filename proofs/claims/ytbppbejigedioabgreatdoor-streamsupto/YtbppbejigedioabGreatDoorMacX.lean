/- The machine in memory; link. -/
import Derived.Test.YtbppbejigedioabGreatDoorPlainC
import Derived.Test.YtbppbejigedioabGreatDoorCutY
import Derived.Test.YtbppbejigedioabGreatDoorBookF
import Derived.Laws.BitsAllLaws
import Derived.Laws.OwnMore
import Derived.Test.YtbppbejigedioabGreatDoorRdB
namespace Go.Proofs.YtbppbejigedioabGreatDoor
open Go.RowKit

abbrev b64 : Nat := 18446744073709551616
theorem and_one (x n : Nat) (hx : x < b64) : bits .and .u64 ((x : Int) / 2 ^ n) 1 = if x.testBit n then 1 else 0 := by
  have e1 : ((x : Int) / 2 ^ n) = ((x / 2 ^ n : Nat) : Int) := by simp
  have hlt : x / 2 ^ n < b64 := Nat.lt_of_le_of_lt (Nat.div_le_self _ _) hx
  have h := u64_and_nat (x / 2 ^ n) 1 hlt (by decide)
  rw [e1]
  have e2 : bits .and .u64 ((x / 2 ^ n : Nat) : Int) 1 = ((x / 2 ^ n &&& 1 : Nat) : Int) := h
  rw [e2, Nat.and_one_is_mod, Nat.testBit_eq_decide_div_mod_eq]
  rcases Nat.mod_two_eq_zero_or_one (x / 2 ^ n) with h0 | h0 <;> rw [h0] <;> simp
theorem or_lt {a b : Nat} (ha : a < b64) (hb : b < b64) : a ||| b < b64 := Nat.or_lt_two_pow (n := 64) ha hb

def macCells (fi : Nat) (vb : Value) (mt : Nat → Nat) (vs vm vt : Value) : List Value := [.int .u64 fi, vb] ++ (List.range 27).map (fun k => Value.int .u64 (mt k)) ++ [vs, vm, vt]
def u64Cells (l : List Nat) : List Value := l.map fun k : Nat => .int .u64 (k : Int)
/-- The machine lies in block M: its first atoms, what comes behind each, what each symbol meets. -/
def MacAt (w : World) (M : Nat) (fi : Nat) (bh : List Nat) (mt : Nat → Nat) (vs vm vt : Value) : Prop :=
  ∃ (ab : Option Addr) (cb : Nat), Blk w M (macCells fi (.slice ab bh.length cb) mt vs vm vt) 121 ∧ w.ownsRow M 116 1 (.slice ab bh.length cb) bh.length (u64Cells bh)
theorem MacAt.lt {w : World} {M fi : Nat} {bh : List Nat} {mt : Nat → Nat} {vs vm vt : Value} (h : MacAt w M fi bh mt vs vm vt) : M < w.heap.size := by
  obtain ⟨_, _, h1, _⟩ := h; exact h1.lt
theorem MacAt.below {w w' : World} {M fi : Nat} {bh : List Nat} {mt : Nat → Nat} {vs vm vt : Value} (h : MacAt w M fi bh mt vs vm vt) (hb : Below w.heap.size w w') : MacAt w' M fi bh mt vs vm vt := by
  obtain ⟨ab, cb, h1, h2⟩ := h
  exact ⟨ab, cb, h1.below hb h1.lt, own_below h2 hb⟩

/-- No machine, no row of atoms. -/
def notMac : Obj → Prop
  | .cells _ t _ => t ≠ 121 ∧ t ≠ 116
  | _ => True
/-- What stays when a machine is made: all ahead of M, and all that is no machine and no row of atoms. -/
def Frm (M : Nat) (w w' : World) : Prop := Below M w w' ∧ ∀ (k : Nat) (o : Obj), w.heap[k]? = some o → notMac o → w'.heap[k]? = some o
theorem Frm.refl (M : Nat) (w : World) : Frm M w w := ⟨Below.refl _ _, fun _ _ h _ => h⟩
theorem Frm.trans {M : Nat} {a b c : World} (h : Frm M a b) (k : Frm M b c) : Frm M a c := ⟨h.1.trans k.1, fun i o ho hn => k.2 i o (h.2 i o ho hn) hn⟩
theorem Frm.size {M : Nat} {w w' : World} (h : Frm M w w') : w.heap.size ≤ w'.heap.size := h.1.size
theorem Frm.of {M : Nat} {w w' : World} (h : Below w.heap.size w w') (hM : M ≤ w.heap.size) : Frm M w w' :=
  ⟨h.mono hM, fun k o ho _ => by rw [h.block k ((Array.getElem?_eq_some_iff.1 ho).1)]; exact ho⟩
theorem Frm.alloc {M : Nat} {w w' : World} (h : Frm M w w') (hM : M ≤ w'.heap.size) (o : Obj) : Frm M w (w'.alloc o) := h.trans (Frm.of ((Below.refl _ _).alloc (Nat.le_refl _) _) hM)
theorem Frm.drewN {M : Nat} {w w' : World} (h : Frm M w w') (q : Nat) : Frm M w (w'.drewN q) := ⟨below_drewN h.1 q, h.2⟩
theorem frm_set {M b j : Nat} {w : World} {cur : Array Value} {t : TypeId} {u : Value} (hb : w.heap[b]? = some (.cells cur t (0, 0))) (ht : t = 121 ∨ t = 116) (hM : M ≤ b) : Frm M w (w.setCell ⟨b, j, none⟩ u) := by
  refine ⟨(Below.refl M w).setCell hM _, ?_⟩
  intro k o ho hn
  have hkb : k ≠ b := by
    intro h
    subst h
    rw [hb] at ho
    simp only [Option.some.injEq] at ho
    subst ho
    rcases ht with h | h
    · exact hn.1 h
    · exact hn.2 h
  rw [Below.heap_setCell _ _ _ _ hkb]; exact ho
theorem Frm.setM {M j : Nat} {w w' : World} {cs : List Value} {u : Value} (h : Frm M w w') (hB : Blk w' M cs 121) : Frm M w (w'.setCell ⟨M, j, none⟩ u) := h.trans (frm_set hB (Or.inl rfl) (Nat.le_refl _))
theorem Frm.setRow {M j g n c : Nat} {w w' : World} {xs : List Value} {u : Value} (h : Frm M w w') (ho : w'.ownsRow M 116 1 (.slice (some ⟨g, 0, none⟩) n c) n xs) : Frm M w (w'.setCell ⟨g, j, none⟩ u) := by
  rcases ho.2 with ⟨hv, _⟩ | ⟨g', cap', cur, hv, hb, hh, _⟩
  · cases hv
  · simp only [Value.slice.injEq, Option.some.injEq, Addr.mk.injEq, and_true, true_and] at hv
    obtain ⟨rfl, rfl⟩ := hv
    exact h.trans (frm_set hh (Or.inr rfl) hb)
theorem Frm.setNew {M b j : Nat} {w w' : World} {u : Value} (h : Frm M w w') (hb : w.heap.size ≤ b) (hM : M ≤ w.heap.size) : Frm M w (w'.setCell ⟨b, j, none⟩ u) := by
  refine ⟨h.1.setCell (show M ≤ b by omega) _, ?_⟩
  intro k o ho hn
  have hk : k < w.heap.size := (Array.getElem?_eq_some_iff.1 ho).1
  rw [Below.heap_setCell _ _ _ _ (show k ≠ b by omega)]
  exact h.2 k o ho hn
theorem Frm.grown {M n : Nat} {w w' W : World} {v : Value} {xs : List Value} (h : Frm M w w') (ho : w'.ownsRow M 116 1 v n xs) (hg : w'.grownBy W v.ownBlock) (hM : M ≤ w'.heap.size) : Frm M w W := by
  refine h.trans ⟨(Below.refl M w').grown hg hM (fun k hk => (ho.lt k hk).1), ?_⟩
  intro k o hk hn
  have hlt : k < w'.heap.size := (Array.getElem?_eq_some_iff.1 hk).1
  rw [hg.block k hlt ?_]
  · exact hk
  · intro he
    rcases ho.2 with ⟨rfl, _⟩ | ⟨g, cap, cur, rfl, _, hh, _⟩
    · simp [Value.ownBlock] at he
    · simp [Value.ownBlock] at he
      subst he
      rw [hh] at hk
      simp only [Option.some.injEq] at hk
      subst hk
      exact hn.2 rfl
theorem Frm.blk {M b : Nat} {w w' : World} {cs : List Value} {t : TypeId} (h : Frm M w w') (hB : Blk w b cs t) (h1 : t ≠ 121) (h2 : t ≠ 116) : Blk w' b cs t := h.2 b _ hB ⟨h1, h2⟩
theorem Frm.own {M base size n : Nat} {w w' : World} {e : TypeId} {v : Value} {xs : List Value} (h : Frm M w w') (ho : w.ownsRow base e size v n xs) (h1 : e ≠ 121) (h2 : e ≠ 116) : w'.ownsRow base e size v n xs := by
  refine ⟨ho.1, ?_⟩
  rcases ho.2 with hn | ⟨g, cap, cur, hv, hg, hh, r⟩
  · exact .inl hn
  · exact .inr ⟨g, cap, cur, hv, hg, h.2 g _ hh ⟨h1, h2⟩, r⟩

theorem u64_cell {w : World} {base cap : Nat} {l : List Nat} {a : Option Addr} (ho : w.ownsRow base 116 1 (.slice a l.length cap) l.length (u64Cells l)) (i : Nat) (hi : i < l.length) :
    ∃ (g x : Nat), a = some ⟨g, 0, none⟩ ∧ l[i]? = some x ∧ g < w.heap.size ∧ base ≤ g ∧ w.cell? ⟨g, i, none⟩ = some (.int .u64 x) ∧ w.frozen? ⟨g, i, none⟩ = false := by
  obtain ⟨g, rfl⟩ := own_some ho (by omega)
  obtain ⟨h1, h2, h3⟩ := own_free ho i
  refine ⟨g, l[i], rfl, by simp [hi], h1, h2, ?_, h3⟩
  rw [ho.cellAt i (by omega)]
  unfold u64Cells
  simp [hi]
theorem u64Cells_set (l : List Nat) (i x : Nat) : (u64Cells l).set i (.int .u64 x) = u64Cells (l.set i x) := by unfold u64Cells; rw [List.map_set]

def linkP (bh : List Nat) (from_ to_ : Nat) : List Nat := bh.mapIdx fun k b => if from_.testBit k then b ||| to_ else b
theorem linkP_length (bh : List Nat) (f t : Nat) : (linkP bh f t).length = bh.length := by unfold linkP; simp
theorem linkP_get (bh : List Nat) (f t k : Nat) : (linkP bh f t)[k]? = (bh[k]?).map fun b => if f.testBit k then b ||| t else b := by unfold linkP; rw [List.getElem?_mapIdx]

def LinkRel (M fi : Nat) (bh : List Nat) (mt : Nat → Nat) (vs vm vt : Value) (f t : Nat) (ab : Option Addr) (cb : Nat) (w : World) (v : Value) (wr : World) : Prop :=
  ∃ (n : Nat) (bh' : List Nat), n ≤ bh.length ∧ v = .int .i64 n ∧ bh'.length = bh.length ∧ Blk wr M (macCells fi (.slice ab bh.length cb) mt vs vm vt) 121 ∧ wr.ownsRow M 116 1 (.slice ab bh'.length cb) bh'.length (u64Cells bh') ∧ Frm M w wr ∧ (∀ k, k < n → bh'[k]? = (linkP bh f t)[k]?) ∧ (∀ k, n ≤ k → bh'[k]? = bh[k]?)
theorem link_set {M fi : Nat} {bh bh' : List Nat} {mt : Nat → Nat} {vs vm vt : Value} {f t g cb n b : Nat} {w wr : World} (hn : n < bh.length) (hlen : bh'.length = bh.length) (hB : Blk wr M (macCells fi (.slice (some ⟨g, 0, none⟩) bh.length cb) mt vs vm vt) 121) (ho : wr.ownsRow M 116 1 (.slice (some ⟨g, 0, none⟩) bh'.length cb) bh'.length (u64Cells bh'))
    (hb : Frm M w wr) (h1 : ∀ k, k < n → bh'[k]? = (linkP bh f t)[k]?) (h2 : ∀ k, n ≤ k → bh'[k]? = bh[k]?) (hx : bh'[n]? = some b) (hbit : f.testBit n = true) :
    LinkRel M fi bh mt vs vm vt f t (some ⟨g, 0, none⟩) cb w (.int .i64 ((n : Int) + 1)) (wr.setCell ⟨g, n, none⟩ (.int .u64 ((b ||| t : Nat) : Int))) := by
  obtain ⟨s1, s2⟩ := ho.stored n (.int .u64 ((b ||| t : Nat) : Int))
  have hne := hB.ne_row ho (by decide)
  refine ⟨n + 1, bh'.set n (b ||| t), by omega, by go_num, by simp [hlen], hB.setOther _ _ (fun h => hne (by rw [← h]; rfl)), ?_, hb.setRow ho, ?_, ?_⟩
  · rw [u64Cells_set] at s1
    simpa using s1
  · intro k hk
    by_cases hkn : k = n
    · subst hkn
      rw [List.getElem?_set_self (by omega), linkP_get, ← h2 k (Nat.le_refl _), hx]
      simp [hbit]
    · rw [List.getElem?_set_ne (by omega)]; exact h1 k (by omega)
  · intro k hk
    rw [List.getElem?_set_ne (by omega)]; exact h2 k (by omega)
theorem link_skip {M fi : Nat} {bh bh' : List Nat} {mt : Nat → Nat} {vs vm vt : Value} {f t cb n : Nat} {ab : Option Addr} {w wr : World} (hn : n < bh.length) (hlen : bh'.length = bh.length) (hB : Blk wr M (macCells fi (.slice ab bh.length cb) mt vs vm vt) 121) (ho : wr.ownsRow M 116 1 (.slice ab bh'.length cb) bh'.length (u64Cells bh'))
    (hb : Frm M w wr) (h1 : ∀ k, k < n → bh'[k]? = (linkP bh f t)[k]?) (h2 : ∀ k, n ≤ k → bh'[k]? = bh[k]?) (hbit : f.testBit n = false) :
    LinkRel M fi bh mt vs vm vt f t ab cb w (.int .i64 ((n : Int) + 1)) wr := by
  refine ⟨n + 1, bh', by omega, by go_num, hlen, hB, ho, hb, ?_, fun k hk => h2 k (by omega)⟩
  intro k hk
  by_cases hkn : k = n
  · subst hkn
    rw [linkP_get, h2 k (Nat.le_refl _), hbit]
    cases bh[k]? <;> simp
  · exact h1 k (by omega)

set_option maxRecDepth 100000 in
set_option maxHeartbeats 1000000 in
theorem link_any (M fi : Nat) (bh : List Nat) (mt : Nat → Nat) (vs vm vt : Value) (f t : Nat) (w : World) (hM : MacAt w M fi bh mt vs vm vt) (hl : bh.length ≤ 64) (hf : f < b64) (ht : t < b64) (hb : ∀ b ∈ bh, b < b64) :
    Calls Tryz.prog 130 #[.pointer (some ⟨M, 0, none⟩), .int .u64 f, .int .u64 t] w fun e w' => e = .returned (.tuple #[]) ∧ MacAt w' M fi (linkP bh f t) mt vs vm vt ∧ Frm M w w' := by
  obtain ⟨ab, cb, hBk, hoB⟩ := hM
  have hc1 : w.cell? ⟨M, 1, none⟩ = some (.slice ab bh.length cb) := hBk.cell 1
  have HBK := hide hBk
  have HO := hide hoB
  have HBB := hide hb
  clear hBk hoB hb
  go_enter Tryz.func130, Tryz.ntmps130
  go_wp2
  go_loopw [12] (fun v wr => LinkRel M fi bh mt vs vm vt f t ab cb w v wr) (fun v _ => 66 - (intOf v).toNat)
  case atStart =>
    go_light
    exact ⟨0, bh, Nat.zero_le _, rfl, rfl, unhide HBK, unhide HO, Frm.refl _ _, fun k hk => by omega, fun k _ => rfl⟩
  case round =>
    obtain ⟨n, bh', hn, rfl, hlen, hB, hoR, hbl, h1, h2⟩ := hrel
    have hc1r : wr.cell? ⟨M, 1, none⟩ = some (.slice ab bh.length cb) := hB.cell 1
    have HB := hide hB
    have HOR := hide hoR
    have HBL := hide hbl
    have H1 := hide h1
    have H2 := hide h2
    clear hB hoR hbl h1 h2
    by_cases hlt : n < bh.length
    · obtain ⟨g, b, rfl, hx, hg, hMg, hcell, hfz⟩ := u64_cell (unhide HOR) n (by omega)
      have hbb : b < b64 := unhide HBB b (by
        have := unhide H2 n (Nat.le_refl _)
        rw [hx] at this
        exact List.mem_of_getElem? this.symm)
      have HX := hide hx
      have hand := and_one f n hf
      cases hbit : f.testBit n with
      | true =>
        rw [hbit] at hand
        simp only [if_true] at hand
        have hor : bits .or .u64 (b : Int) (t : Int) = ((b ||| t : Nat) : Int) := u64_or_nat b t hbb ht
        have hrel2 := hide (link_set (vs := vs) (vm := vm) (vt := vt) (mt := mt) (fi := fi) (t := t) hlt (by omega) (unhide HB) (unhide HOR) (unhide HBL) (unhide H1) (unhide H2) (unhide HX) hbit)
        clear hbit hx hbb
        go_wp2
        go_roundw
        case rel => first | exact unhide hrel2 | ((repeat apply Exists.intro); exact ⟨unhide hrel2, rfl⟩)
        case measure => simp [intOf]; omega
      | false =>
        rw [hbit] at hand
        simp only [Bool.false_eq_true, if_false] at hand
        have hrel2 := hide (link_skip (vs := vs) (vm := vm) (vt := vt) (mt := mt) (fi := fi) (t := t) hlt (by omega) (unhide HB) (unhide HOR) (unhide HBL) (unhide H1) (unhide H2) hbit)
        clear hbit hx hbb
        go_wp2
        go_roundw
        case rel => first | exact unhide hrel2 | ((repeat apply Exists.intro); exact ⟨unhide hrel2, rfl⟩)
        case measure => simp [intOf]; omega
    · have hfin : Hid (MacAt wr M fi (linkP bh f t) mt vs vm vt) := hide (by
        have e1 : bh' = linkP bh f t := by
          apply List.ext_getElem?
          intro k
          by_cases hk : k < n
          · exact unhide H1 k hk
          · rw [List.getElem?_eq_none (by omega), List.getElem?_eq_none (by rw [linkP_length]; omega)]
        have e2 : (linkP bh f t).length = bh.length := linkP_length _ _ _
        rw [e1] at HOR
        refine ⟨ab, cb, ?_, unhide HOR⟩
        rw [e2]
        exact unhide HB)
      go_wp2
      go_end0
      exact ⟨rfl, unhide hfin, unhide HBL⟩
end Go.Proofs.YtbppbejigedioabGreatDoor
/- The machine: stands, layOne. -/
namespace Go.Proofs.YtbppbejigedioabGreatDoor
open Go.RowKit

theorem macCells_get (fi : Nat) (vb : Value) (mt : Nat → Nat) (vs vm vt : Value) (s : Nat) (h : s < 27) : (macCells fi vb mt vs vm vt)[2 + s]? = some (.int .u64 (mt s)) := by
  have e : s = 0 ∨ s = 1 ∨ s = 2 ∨ s = 3 ∨ s = 4 ∨ s = 5 ∨ s = 6 ∨ s = 7 ∨ s = 8 ∨ s = 9 ∨ s = 10 ∨ s = 11 ∨ s = 12 ∨ s = 13 ∨ s = 14 ∨ s = 15 ∨ s = 16 ∨ s = 17 ∨ s = 18 ∨ s = 19 ∨ s = 20 ∨ s = 21 ∨ s = 22 ∨ s = 23 ∨ s = 24 ∨ s = 25 ∨ s = 26 := by omega
  rcases e with rfl | rfl | rfl | rfl | rfl | rfl | rfl | rfl | rfl | rfl | rfl | rfl | rfl | rfl | rfl | rfl | rfl | rfl | rfl | rfl | rfl | rfl | rfl | rfl | rfl | rfl | rfl <;> rfl
def setMt (mt : Nat → Nat) (s v : Nat) : Nat → Nat := fun j => if j = s then v else mt j
theorem macCells_set (fi : Nat) (vb : Value) (mt : Nat → Nat) (vs vm vt : Value) (s v : Nat) (h : s < 27) : (macCells fi vb mt vs vm vt).set (2 + s) (.int .u64 (v : Int)) = macCells fi vb (setMt mt s v) vs vm vt := by
  have e : s = 0 ∨ s = 1 ∨ s = 2 ∨ s = 3 ∨ s = 4 ∨ s = 5 ∨ s = 6 ∨ s = 7 ∨ s = 8 ∨ s = 9 ∨ s = 10 ∨ s = 11 ∨ s = 12 ∨ s = 13 ∨ s = 14 ∨ s = 15 ∨ s = 16 ∨ s = 17 ∨ s = 18 ∨ s = 19 ∨ s = 20 ∨ s = 21 ∨ s = 22 ∨ s = 23 ∨ s = 24 ∨ s = 25 ∨ s = 26 := by omega
  rcases e with rfl | rfl | rfl | rfl | rfl | rfl | rfl | rfl | rfl | rfl | rfl | rfl | rfl | rfl | rfl | rfl | rfl | rfl | rfl | rfl | rfl | rfl | rfl | rfl | rfl | rfl | rfl <;> rfl
theorem macCells_same {fi : Nat} {vb : Value} {mt mt' : Nat → Nat} {vs vm vt : Value} (h : ∀ s, s < 27 → mt s = mt' s) : macCells fi vb mt vs vm vt = macCells fi vb mt' vs vm vt := by
  unfold macCells
  have : (List.range 27).map (fun k => Value.int .u64 (mt k)) = (List.range 27).map (fun k => Value.int .u64 (mt' k)) := by
    apply List.map_congr_left
    intro s hs
    rw [h s (by simpa using hs)]
  rw [this]

/-- What each symbol meets, with one atom more. -/
def meetP (mt : Nat → Nat) (k : Int) (n : Nat) : Nat → Nat := fun s => if standB k s then mt s ||| 2 ^ n else mt s
theorem Tryz.info116 : (Tryz.prog.info? 116).map (fun i => (i.zero, i.size, i.bytes)) = some (some (.int .u64 0), 1, 8) := by kernel_rfl
def reachV (f l : Nat) (e : Bool) : Value := .agg #[.int .u64 f, .int .u64 l, .bool e]

/-- While the symbols are gone over. -/
def OneRel (M fi : Nat) (bh : List Nat) (mt : Nat → Nat) (vs vm vt : Value) (k p : Int) (a' : Option Addr) (cap' b0 : Nat) (w : World) (v : Value) (wr : World) : Prop :=
  ∃ (s : Nat) (mt' : Nat → Nat), s ≤ 27 ∧ v = .int .i64 s ∧ Blk wr M (macCells fi (.slice a' (bh ++ [0]).length cap') mt' vs vm vt) 121 ∧ wr.ownsRow M 116 1 (.slice a' (bh ++ [0]).length cap') (bh ++ [0]).length (u64Cells (bh ++ [0])) ∧
    Blk wr b0 [.int .i64 k, .int .i64 p] 193 ∧ Blk wr (b0 + 1) [.int .u64 0, .int .u64 0, .bool false] 128 ∧ Frm M w wr ∧ M < b0 ∧ w.heap.size ≤ b0 ∧ (∀ j, j < 27 → mt' j = if j < s then meetP mt k bh.length j else mt j)
theorem one_start {M fi cb cap' : Nat} {bh : List Nat} {mt : Nat → Nat} {vs vm vt : Value} {k p : Int} {ab a' : Option Addr} {w w2 : World} (hB : Blk w M (macCells fi (.slice ab bh.length cb) mt vs vm vt) 121) (hO : w.ownsRow M 116 1 (.slice ab bh.length cb) bh.length (u64Cells bh))
    (ho : w2.ownsRow M 116 1 (.slice a' (bh.length + 1) cap') (bh.length + 1) (u64Cells bh ++ [.int .u64 0]))
    (hg : (((w.alloc (.cells #[.int .i64 k, .int .i64 p] 193)).alloc (.cells #[.int .u64 0, .int .u64 0, .bool false] 128)).alloc (.cells #[.int .u64 0] 116)).grownBy w2 (Value.slice ab bh.length cb).ownBlock) :
    Blk w2 M (macCells fi (.slice ab bh.length cb) mt vs vm vt) 121 ∧ OneRel M fi bh mt vs vm vt k p a' cap' w.heap.size w (.int .i64 0) (w2.setCell ⟨M, 1, none⟩ (.slice a' (bh.length + 1) cap')) := by
  have hlt := hB.lt
  have hrow : ∀ b, w.heap.size ≤ b → some b ≠ (Value.slice ab bh.length cb).ownBlock := fun b hb h => by have := (hO.lt b h.symm).2; omega
  have hlen : (bh ++ [0]).length = bh.length + 1 := by simp
  have h1 := (((hB.alloc (.cells #[.int .i64 k, .int .i64 p] 193)).alloc (.cells #[.int .u64 0, .int .u64 0, .bool false] 128)).alloc (.cells #[.int .u64 0] 116)).grown hg (hB.ne_row hO (by decide))
  have h2 : Blk w2 w.heap.size [.int .i64 k, .int .i64 p] 193 := (((Blk.new w _ _).alloc _).alloc _).grown hg (hrow _ (Nat.le_refl _))
  have h3 : Blk w2 (w.heap.size + 1) [.int .u64 0, .int .u64 0, .bool false] 128 := ((Blk.new' _ _ (by simp) _ _).alloc _).grown hg (hrow _ (by omega))
  refine ⟨h1, 0, mt, by omega, rfl, ?_, ?_, h2.setOther _ _ (by show M ≠ _; omega), h3.setOther _ _ (by show M ≠ _; omega), ?_, by omega, Nat.le_refl _, fun j _ => by simp⟩
  · rw [hlen]; exact h1.setSame 1 _
  · have e : u64Cells (bh ++ [0]) = u64Cells bh ++ [.int .u64 0] := by unfold u64Cells; simp
    rw [hlen, e]
    exact own_set_ne ho _ _ (h1.ne_row ho (by decide))
  · refine Frm.setM ?_ h1
    exact ((((Frm.refl M w).alloc (by omega) _).alloc (by simp; omega) _).alloc (by simp; omega) _).grown (((hO.alloc _).alloc _).alloc _) hg (by simp; omega)
theorem one_yes {M fi b0 cap' s : Nat} {bh : List Nat} {mt mt' : Nat → Nat} {vs vm vt : Value} {k p : Int} {a' : Option Addr} {w wr W : World} (hs : s < 27) (hB : Blk wr M (macCells fi (.slice a' (bh ++ [0]).length cap') mt' vs vm vt) 121) (hO : wr.ownsRow M 116 1 (.slice a' (bh ++ [0]).length cap') (bh ++ [0]).length (u64Cells (bh ++ [0])))
    (h2 : Blk wr b0 [.int .i64 k, .int .i64 p] 193) (h3 : Blk wr (b0 + 1) [.int .u64 0, .int .u64 0, .bool false] 128) (hb : Frm M w wr) (hM : M < b0) (hwb : w.heap.size ≤ b0) (hmt : ∀ j, j < 27 → mt' j = if j < s then meetP mt k bh.length j else mt j) (hW : Below wr.heap.size wr W) (hst : standB k s = true) :
    OneRel M fi bh mt vs vm vt k p a' cap' b0 w (.int .i64 ((s : Int) + 1)) (W.setCell ⟨M, 2 + s, none⟩ (.int .u64 ((mt' s ||| 2 ^ bh.length : Nat) : Int))) := by
  have hB' := hB.below hW hB.lt
  have hO' := own_below hO hW
  refine ⟨s + 1, setMt mt' s (mt' s ||| 2 ^ bh.length), by omega, by go_num, ?_, own_set_ne hO' _ _ (hB'.ne_row hO' (by decide)), (h2.below hW h2.lt).setOther _ _ (by show M ≠ _; omega), (h3.below hW h3.lt).setOther _ _ (by show M ≠ _; omega), (hb.trans (Frm.of hW (by have := hB.lt; omega))).setM hB', hM, hwb, ?_⟩
  · have h := hB'.setSame (2 + s) (.int .u64 ((mt' s ||| 2 ^ bh.length : Nat) : Int))
    rw [macCells_set _ _ _ _ _ _ _ _ hs] at h
    exact h
  · intro j hj
    unfold setMt
    by_cases hjs : j = s
    · subst hjs
      rw [if_pos rfl, if_pos (by omega), hmt j hj, if_neg (by omega)]
      unfold meetP
      rw [if_pos hst]
    · rw [if_neg hjs, hmt j hj]
      by_cases h1 : j < s
      · rw [if_pos h1, if_pos (by omega)]
      · rw [if_neg h1, if_neg (by omega)]
theorem one_no {M fi b0 cap' s : Nat} {bh : List Nat} {mt mt' : Nat → Nat} {vs vm vt : Value} {k p : Int} {a' : Option Addr} {w wr W : World} (hs : s < 27) (hB : Blk wr M (macCells fi (.slice a' (bh ++ [0]).length cap') mt' vs vm vt) 121) (hO : wr.ownsRow M 116 1 (.slice a' (bh ++ [0]).length cap') (bh ++ [0]).length (u64Cells (bh ++ [0])))
    (h2 : Blk wr b0 [.int .i64 k, .int .i64 p] 193) (h3 : Blk wr (b0 + 1) [.int .u64 0, .int .u64 0, .bool false] 128) (hb : Frm M w wr) (hM : M < b0) (hwb : w.heap.size ≤ b0) (hmt : ∀ j, j < 27 → mt' j = if j < s then meetP mt k bh.length j else mt j) (hW : Below wr.heap.size wr W) (hst : standB k s = false) :
    OneRel M fi bh mt vs vm vt k p a' cap' b0 w (.int .i64 ((s : Int) + 1)) W := by
  refine ⟨s + 1, mt', by omega, by go_num, hB.below hW hB.lt, own_below hO hW, h2.below hW h2.lt, h3.below hW h3.lt, hb.trans (Frm.of hW (by have := hB.lt; omega)), hM, hwb, ?_⟩
  intro j hj
  rw [hmt j hj]
  by_cases hjs : j = s
  · subst hjs
    rw [if_neg (by omega), if_pos (by omega)]
    unfold meetP
    rw [hst]
    simp
  · by_cases h1 : j < s
    · rw [if_pos h1, if_pos (by omega)]
    · rw [if_neg h1, if_neg (by omega)]
theorem one_end {M fi b0 cap' s : Nat} {bh : List Nat} {mt mt' : Nat → Nat} {vs vm vt : Value} {k : Int} {a' : Option Addr} {w wr : World} (hs : 27 ≤ s) (hB : Blk wr M (macCells fi (.slice a' (bh ++ [0]).length cap') mt' vs vm vt) 121) (hO : wr.ownsRow M 116 1 (.slice a' (bh ++ [0]).length cap') (bh ++ [0]).length (u64Cells (bh ++ [0])))
    (h3 : Blk wr (b0 + 1) [.int .u64 0, .int .u64 0, .bool false] 128) (hb : Frm M w wr) (hM : M < b0) (hwb : w.heap.size ≤ b0) (hMw : M ≤ w.heap.size) (hmt : ∀ j, j < 27 → mt' j = if j < s then meetP mt k bh.length j else mt j) (x y z : Value) :
    MacAt (((wr.setCell ⟨b0 + 1, 0, none⟩ x).setCell ⟨b0 + 1, 1, none⟩ y).setCell ⟨b0 + 1, 2, none⟩ z) M fi (bh ++ [0]) (meetP mt k bh.length) vs vm vt ∧ Frm M w (((wr.setCell ⟨b0 + 1, 0, none⟩ x).setCell ⟨b0 + 1, 1, none⟩ y).setCell ⟨b0 + 1, 2, none⟩ z) := by
  have hne := h3.ne_row hO (by decide)
  rw [macCells_same (mt' := meetP mt k bh.length) (fun j hj => by rw [hmt j hj, if_pos (by omega)])] at hB
  refine ⟨⟨a', cap', ((hB.setOther _ _ (by show b0 + 1 ≠ M; omega)).setOther _ _ (by show b0 + 1 ≠ M; omega)).setOther _ _ (by show b0 + 1 ≠ M; omega), own_set_ne (own_set_ne (own_set_ne hO _ _ hne) _ _ hne) _ _ hne⟩, ?_⟩
  exact ((hb.setNew (by omega) hMw).setNew (by omega) hMw).setNew (by omega) hMw
theorem wrap_pow (n : Nat) (h : n ≤ 60) : IntKind.u64.wrap (2 ^ n) = ((2 ^ n : Nat) : Int) := by
  have h1 : (2 : Nat) ^ n ≤ 2 ^ 60 := Nat.pow_le_pow_right (by omega) h
  have h2 : ((2 : Int) ^ n) = ((2 ^ n : Nat) : Int) := by simp
  have h3 : (2 : Nat) ^ 60 = 1152921504606846976 := by decide
  rw [h2, IntKind.wrap_u64]
  generalize (2 : Nat) ^ n = m at h1 ⊢
  rw [h3] at h1
  omega
theorem pow_lt {n : Nat} (h : n ≤ 60) : 2 ^ n < b64 := by
  have h1 : (2 : Nat) ^ n ≤ 2 ^ 60 := Nat.pow_le_pow_right (by omega) h
  have h3 : (2 : Nat) ^ 60 = 1152921504606846976 := by decide
  show _ < 18446744073709551616
  omega

set_option maxRecDepth 100000 in
set_option maxHeartbeats 1000000 in
theorem layOne_any (M fi : Nat) (bh : List Nat) (mt : Nat → Nat) (vs vm vt : Value) (k p : Int) (w : World) (hM : MacAt w M fi bh mt vs vm vt) (hl : bh.length ≤ 60) (hmt : ∀ s, mt s < b64) :
    Calls Tryz.prog 85 #[.pointer (some ⟨M, 0, none⟩), .agg #[.int .i64 k, .int .i64 p]] w fun e w' => e = .returned (reachV (2 ^ bh.length) (2 ^ bh.length) false) ∧ MacAt w' M fi (bh ++ [0]) (meetP mt k bh.length) vs vm vt ∧ Frm M w w' := by
  obtain ⟨i0, ki, kz0, kz1, kz2⟩ := info_parts Tryz.info116
  obtain ⟨ab, cb, hBk, hoB⟩ := hM
  have hc1 : w.cell? ⟨M, 1, none⟩ = some (.slice ab bh.length cb) := hBk.cell 1
  have hMlt := hBk.lt
  have hMne : M ≠ w.heap.size := by omega
  have HBK := hide hBk
  have HO := hide hoB
  clear hBk hoB
  have hcap : (bh.length + 1) * 8 ≤ 140737488355328 := by omega
  have hmax : bh.length + 1 ≤ maxLen := by unfold maxLen; omega
  have hA := wrap_pow bh.length hl
  have hAl := pow_lt hl
  have HMT := hide hmt
  clear hmt
  obtain ⟨A, hAn⟩ : ∃ A : Nat, 2 ^ bh.length = A := ⟨_, rfl⟩
  rw [hAn] at hA hAl ⊢
  have HAN := hide hAn
  clear hAn
  go_enter Tryz.func85, Tryz.ntmps85
  go_wp2_with (at_builtin; refine wpList_append_own _ rfl (.tmp 17) (.tmp 18) 117 rfl M 116 i0 (.int .u64 0) 1 8 Tryz.underlying117 ki kz0 kz1 kz2 rfl (by decide) (.slice ab bh.length cb) bh.length (u64Cells bh) rfl ((((unhide HO).alloc _).alloc _).alloc _) ⟨w.heap.size + 2, 0, none⟩ 1 1 [.int .u64 0] rfl rfl (news_new _ _ (by simp) _ _) (one1 _) hmax hcap (by simp; omega) ?_; intro v' w2 hown' hgrow _; refine Hid.out ?_)
  refine hide ?_
  obtain ⟨a', cap', hv'⟩ := own_form hown'
  subst hv'
  obtain ⟨hBm, hst⟩ := one_start (k := k) (p := p) (unhide HBK) (unhide HO) hown' hgrow
  have hc1m : w2.cell? ⟨M, 1, none⟩ = some (.slice ab bh.length cb) := hBm.cell 1
  have hf1m : w2.frozen? ⟨M, 1, none⟩ = false := hBm.free 1
  have HST := hide hst
  clear hst hBm hown' hgrow
  go_wp2
  go_loopw [22] (fun v wr => OneRel M fi bh mt vs vm vt k p a' cap' w.heap.size w v wr) (fun v _ => 29 - (intOf v).toNat)
  case atStart =>
    go_light
    exact unhide HST
  case round =>
    obtain ⟨s, mt', hs27, rfl, hB, hO, h2, h3, hb, hMb, hwb, hmt'⟩ := hrel
    have hBlt := hB.lt
    obtain ⟨e0, e1, e2⟩ := h2.two
    have HB := hide hB
    have HOR := hide hO
    have H2 := hide h2
    have H3 := hide h3
    have HBE := hide hb
    have HMT' := hide hmt'
    by_cases hlt : s < 27
    · have hms : mt' s < b64 := by
        rw [hmt' s hlt, if_neg (by omega)]
        exact unhide HMT s
      clear hB hO h2 h3 hb hmt'
      have hlti : (s : Int) < 27 := by omega
      go_wp2_with fail
      refine (stands_any k p s _).mono ?_
      rintro e w4 ⟨rfl, hb4⟩
      cases hst : standB k s with
      | true =>
        have hB4 := (unhide HB).below hb4 hBlt
        have g0 : w4.cell? ⟨M, 2 + s, none⟩ = some (.int .u64 (mt' s)) := by rw [hB4.cell (2 + s), macCells_get _ _ _ _ _ _ _ hlt]
        have g1 : w4.frozen? ⟨M, 2 + s, none⟩ = false := hB4.free _
        have hor : bits .or .u64 (mt' s : Int) (A : Int) = ((mt' s ||| A : Nat) : Int) := u64_or_nat _ _ hms hAl
        have hfin : Hid (∀ W, Below wr.heap.size wr W → OneRel M fi bh mt vs vm vt k p a' cap' w.heap.size w (.int .i64 ((s : Int) + 1)) (W.setCell ⟨M, 2 + s, none⟩ (.int .u64 ((mt' s ||| A : Nat) : Int)))) := hide (fun W hW => by
          have h := one_yes (mt := mt) hlt (unhide HB) (unhide HOR) (unhide H2) (unhide H3) (unhide HBE) hMb hwb (unhide HMT') hW hst
          rw [unhide HAN] at h
          exact h)
        have HB4 := hide hb4
        clear hst hB4 hb4
        go_wp2
        go_region
        all_goals
          go_wp2
          go_roundw
          case rel => first | exact unhide hfin _ ((unhide HB4).drew) | ((repeat apply Exists.intro); exact ⟨unhide hfin _ ((unhide HB4).drew), rfl⟩)
          case measure => simp [intOf]; omega
      | false =>
        have hfin := hide (one_no (mt := mt) hlt (unhide HB) (unhide HOR) (unhide H2) (unhide H3) (unhide HBE) hMb hwb (unhide HMT') hb4 hst)
        clear hst hb4
        go_wp2
        go_roundw
        case rel => first | exact unhide hfin | ((repeat apply Exists.intro); exact ⟨unhide hfin, rfl⟩)
        case measure => simp [intOf]; omega
    · obtain ⟨q0, q1, q2, q3⟩ := h3.three
      have h3lt := h3.lt
      have hgt : ¬ (s : Int) < 27 := by omega
      have hfin := hide (one_end (mt := mt) (by omega) (unhide HB) (unhide HOR) (unhide H3) (unhide HBE) hMb hwb (by omega) (unhide HMT') (.int .u64 A) (.int .u64 A) (.bool false))
      clear hB hO h2 h3 hb hmt'
      go_wp2
      exact bodyPost_ret (v := .agg #[.int .u64 A, .int .u64 A, .bool false]) (by simp [results, Tryz.results85, go_sem, *]) rfl ⟨rfl, unhide hfin⟩
end Go.Proofs.YtbppbejigedioabGreatDoor
/- The machine: lay at an atom. -/
namespace Go.Proofs.YtbppbejigedioabGreatDoor
open Go.RowKit

/-- What each atom is followed by, what each symbol meets. -/
abbrev Ms := List Nat × (Nat → Nat)
abbrev Rch := Nat × Nat × Bool
def LayRes (M fi : Nat) (vs vm vt : Value) (q : Ms) (r : Rch) (w : World) (e : Ending) (w' : World) : Prop :=
  e = .returned (reachV r.1 r.2.1 r.2.2) ∧ MacAt w' M fi q.1 q.2 vs vm vt ∧ Frm M w w'
theorem Frm.ofAlloc {M : Nat} {w w' : World} {o : Obj} (h : Frm M (w.alloc o) w') (hM : M ≤ w.heap.size) : Frm M w w' := (Frm.of ((Below.refl _ _).alloc (Nat.le_refl _) _) hM).trans h
/-- The answer laid into its cells. -/
theorem mac_ret {M fi b : Nat} {bh : List Nat} {mt : Nat → Nat} {vs vm vt x0 y0 z0 x y z : Value} {w w1 : World} (hM1 : MacAt w1 M fi bh mt vs vm vt) (hB : Blk w1 b [x0, y0, z0] 128) (hf : Frm M w w1) (hb : w.heap.size ≤ b) (hMw : M < w.heap.size) :
    MacAt (((w1.setCell ⟨b, 0, none⟩ x).setCell ⟨b, 1, none⟩ y).setCell ⟨b, 2, none⟩ z) M fi bh mt vs vm vt ∧ Frm M w (((w1.setCell ⟨b, 0, none⟩ x).setCell ⟨b, 1, none⟩ y).setCell ⟨b, 2, none⟩ z) := by
  obtain ⟨ab, cb, h1, h2⟩ := hM1
  have hne := hB.ne_row h2 (by decide)
  refine ⟨⟨ab, cb, ((h1.setOther _ _ (by show b ≠ M; omega)).setOther _ _ (by show b ≠ M; omega)).setOther _ _ (by show b ≠ M; omega), own_set_ne (own_set_ne (own_set_ne h2 _ _ hne) _ _ hne) _ _ hne⟩, ?_⟩
  exact ((hf.setNew hb (by omega)).setNew hb (by omega)).setNew hb (by omega)

set_option maxRecDepth 100000 in
set_option maxHeartbeats 1000000 in
theorem lay_sign (M fi : Nat) (bh : List Nat) (mt : Nat → Nat) (vs vm vt : Value) (k : Int) (i : Nat) (w : World) (hM : MacAt w M fi bh mt vs vm vt) (hl : bh.length ≤ 60) (hmt : ∀ s, mt s < b64) :
    Calls Tryz.prog 50 #[.pointer (some ⟨M, 0, none⟩), signV k i] w fun e w' => LayRes M fi vs vm vt (bh ++ [0], meetP mt k bh.length) (2 ^ bh.length, 2 ^ bh.length, false) w e w' := by
  unfold signV
  have hMlt := hM.lt
  have HM := hide hM
  have HMT := hide hmt
  clear hM hmt
  have q_sign := as_sign_sign
  obtain ⟨A, hAn⟩ : ∃ A : Nat, 2 ^ bh.length = A := ⟨_, rfl⟩
  have hcall := fun W (hW : Below w.heap.size w W) => layOne_any M fi bh mt vs vm vt k i W ((unhide HM).below hW) hl (unhide HMT)
  rw [hAn] at hcall ⊢
  unfold reachV at hcall
  have HC := hide hcall
  clear hcall hAn
  go_enter Tryz.func50, Tryz.ntmps50
  go_wp2_with fail
  refine (unhide HC _ (((Below.refl _ _).alloc (Nat.le_refl _) _).alloc (by simp) _)).mono ?_
  rintro e w1 ⟨rfl, hM1, hf1⟩
  have hB1 : Blk w1 w.heap.size [.int .u64 0, .int .u64 0, .bool false] 128 := hf1.blk ((Blk.new w _ _).alloc _) (by decide) (by decide)
  obtain ⟨c0, c1, c2, c3⟩ := hB1.three
  have hfin := hide (mac_ret (x := .int .u64 A) (y := .int .u64 A) (z := .bool false) hM1 hB1 ((hf1.ofAlloc (by simp; omega)).ofAlloc (by omega)) (Nat.le_refl _) hMlt)
  clear hM1 hf1 hB1
  go_wp2
  exact bodyPost_ret (v := .agg #[.int .u64 A, .int .u64 A, .bool false]) (by simp [results, Tryz.results50, go_sem, *]) rfl ⟨rfl, unhide hfin⟩

set_option maxRecDepth 100000 in
set_option maxHeartbeats 1000000 in
theorem layAgain_sign (M fi : Nat) (bh : List Nat) (mt : Nat → Nat) (vs vm vt : Value) (k : Int) (i : Nat) (w : World) (hM : MacAt w M fi bh mt vs vm vt) (hl : bh.length ≤ 60) (hmt : ∀ s, mt s < b64) (hbh : ∀ b ∈ bh, b < b64) :
    Calls Tryz.prog 86 #[.pointer (some ⟨M, 0, none⟩), signV k i] w fun e w' => LayRes M fi vs vm vt (linkP (bh ++ [0]) (2 ^ bh.length) (2 ^ bh.length), meetP mt k bh.length) (2 ^ bh.length, 2 ^ bh.length, false) w e w' := by
  have hMlt := hM.lt
  have HM := hide hM
  have HMT := hide hmt
  have hAl := pow_lt hl
  have HBH : Hid (∀ b ∈ bh ++ [0], b < b64) := hide (fun b hb => by
    rcases List.mem_append.1 hb with h | h
    · exact hbh b h
    · simp at h; subst h; decide)
  clear hM hmt hbh
  obtain ⟨A, hAn⟩ : ∃ A : Nat, 2 ^ bh.length = A := ⟨_, rfl⟩
  have hcall := fun W (hW : Below w.heap.size w W) => lay_sign M fi bh mt vs vm vt k i W ((unhide HM).below hW) hl (unhide HMT)
  unfold signV LayRes reachV at hcall
  unfold signV
  rw [hAn] at hcall hAl ⊢
  have HC := hide hcall
  clear hcall hAn
  go_enter Tryz.func86, Tryz.ntmps86
  go_wp2_with fail
  refine (unhide HC _ ((Below.refl _ _).alloc (Nat.le_refl _) _)).mono ?_
  rintro e w1 ⟨rfl, hM1, hf1⟩
  have hB1 : Blk w1 w.heap.size [.int .u64 0, .int .u64 0, .bool false] 128 := hf1.blk (Blk.new w _ _) (by decide) (by decide)
  have hs1 := hf1.size
  have hs1' : w.heap.size + 1 ≤ w1.heap.size := by simpa using hs1
  have HB1 := hide hB1
  have HM1 := hide hM1
  have HF1 := hide (hf1.ofAlloc (by omega))
  clear hM1 hf1 hB1 hs1
  go_wp2_with fail
  refine (link_any M fi (bh ++ [0]) _ vs vm vt A A _ ((unhide HM1).below ((Below.refl _ _).alloc (Nat.le_refl _) _)) (by simp; omega) hAl hAl (unhide HBH)).mono ?_
  rintro e w2 ⟨rfl, hM2, hf2⟩
  have hB2 : Blk w2 w.heap.size [.int .u64 0, .int .u64 0, .bool false] 128 := hf2.blk ((unhide HB1).alloc _) (by decide) (by decide)
  have hB3 : Blk w2 w1.heap.size [.int .u64 A, .int .u64 A, .bool false] 128 := hf2.blk (Blk.new w1 _ _) (by decide) (by decide)
  obtain ⟨c0, c1, c2, c3⟩ := hB2.three
  obtain ⟨d0, d1, d2, d3⟩ := hB3.three
  have hfin := hide (mac_ret (x := .int .u64 A) (y := .int .u64 A) (z := .bool false) hM2 hB2 ((unhide HF1).trans (hf2.ofAlloc (by omega))) (Nat.le_refl _) hMlt)
  clear hM2 hf2 hB2 hB3
  go_wp2
  exact bodyPost_ret (v := .agg #[.int .u64 A, .int .u64 A, .bool false]) (by simp [results, Tryz.results86, go_sem, *]) rfl ⟨rfl, unhide hfin⟩
end Go.Proofs.YtbppbejigedioabGreatDoor
