/- The reference's characters of a text. -/
import Derived.Test.YtbppbejigedioabGreatDoorRefC
import Derived.Test.YtbppbejigedioabGreatDoorRdB
import Derived.Test.YtbppbejigedioabGreatDoorBookX
import Derived.Laws.BytesArg
namespace Go.Proofs.YtbppbejigedioabGreatDoor
open Go.RowKit
namespace Cu

/-- Is there no well-formed character at i? -/
def bad (s : List UInt8) (i : Nat) : Bool := decide ((well s i).2 = 0 ∨ (well s i).1 < (well s i).2)
def chN (s : List UInt8) (i : Nat) : Nat := if bad s i = true then 1 else (well s i).2
def chCode (s : List UInt8) (i : Nat) : Int := if bad s i = true then -1 else ((code s i (well s i).2 : Nat) : Int)
/-- A character of a text: where, how many bytes, its code point. -/
abbrev Chr := Nat × Nat × Int
def charsGo (s : List UInt8) : Nat → Nat → List Chr
  | 0, _ => []
  | f + 1, i => if i < s.length then (i, chN s i, chCode s i) :: charsGo s f (i + chN s i) else []
def chars (s : List UInt8) : List Chr := charsGo s s.length 0
theorem chN_pos (s : List UInt8) (i : Nat) : 1 ≤ chN s i ∧ chN s i ≤ 4 ∧ (i < s.length → i + chN s i ≤ s.length) := by
  have h1 := well_le s i
  unfold chN
  split
  · omega
  · rename_i hb
    unfold bad at hb
    simp only [decide_eq_true_eq] at hb
    refine ⟨by omega, by omega, fun h => ?_⟩
    have := well_in s i h
    omega
theorem charsGo_end {s : List UInt8} {f i : Nat} (h : s.length ≤ i) : charsGo s f i = [] := by
  cases f with
  | zero => rfl
  | succ f => rw [charsGo, if_neg (by omega)]
theorem charsGo_step {s : List UInt8} {f i : Nat} (h : i < s.length) : charsGo s (f + 1) i = (i, chN s i, chCode s i) :: charsGo s f (i + chN s i) := by
  rw [charsGo, if_pos h]
end Cu

def chrCells : List Cu.Chr → List Value
  | [] => []
  | x :: r => [.int .i64 x.1, .int .i64 x.2.1, .int .i64 x.2.2] ++ chrCells r
theorem chrCells_snoc (l : List Cu.Chr) (x : Cu.Chr) : chrCells (l ++ [x]) = chrCells l ++ [.int .i64 x.1, .int .i64 x.2.1, .int .i64 x.2.2] := by
  induction l with
  | nil => rfl
  | cons y l ih => simp [chrCells, ih]
theorem Tryz.info91 : (Tryz.prog.info? 91).map (fun i => (i.zero, i.size, i.bytes)) = some (some (.agg #[.int .i64 0, .int .i64 0, .int .i64 0]), 3, 24) := by kernel_rfl

set_option maxRecDepth 100000 in
set_option maxHeartbeats 400000 in
theorem charAt_any (s : ByteArray) (i : Nat) (w : World) (hs : s.size ≤ 140737488355328) (h1 : i < s.size) :
    Calls Tryz.prog 60 #[.string s, .int .i64 i] w fun e w' => e = .returned (.agg #[.int .i64 i, .int .i64 (Cu.chN s.data.toList i), .int .i64 (Cu.chCode s.data.toList i)]) ∧ Below w.heap.size w w' := by
  have hwl := Cu.well_le s.data.toList i
  have hin := Cu.well_in s.data.toList i (by rw [len_toList]; omega)
  rw [len_toList] at hin
  cases hb : Cu.bad s.data.toList i with
  | true =>
    have e1 : Cu.chN s.data.toList i = 1 := by unfold Cu.chN; rw [if_pos hb]
    have e2 : Cu.chCode s.data.toList i = -1 := by unfold Cu.chCode; rw [if_pos hb]
    rw [e1, e2]
    unfold Cu.bad at hb
    simp only [decide_eq_true_eq] at hb
    by_cases hz : (Cu.well s.data.toList i).2 = 0
    · have hz2 : (((Cu.well s.data.toList i).2 : Int) == 0) = true := by rw [hz]; rfl
      clear hz hb e1 e2
      go_enter Tryz.func60, Tryz.ntmps60
      go_wp2_with (go_at_call 59; refine (well_any s _ _ hs (by omega) (by omega)).mono ?_; rintro e w' ⟨rfl, rfl⟩; rw [Int.toNat_natCast])
      refine bodyPost_ret (v := .agg #[.int .i64 i, .int .i64 1, .int .i64 (-1)]) (by simp [results, Tryz.results60, go_sem]) rfl ⟨rfl, ?_⟩
      go_light
      first | exact (Below.refl _ _).alloc (Nat.le_refl _) _ | exact ((((Below.refl _ _).alloc (Nat.le_refl _) _).setCell (Nat.le_refl _) _).setCell (Nat.le_refl _) _).setCell (Nat.le_refl _) _
    · have hz2 : (((Cu.well s.data.toList i).2 : Int) == 0) = false := by rw [beq_eq_false_iff_ne]; omega
      have hz3 : (Cu.well s.data.toList i).1 < (Cu.well s.data.toList i).2 := by omega
      clear hz hb e1 e2
      go_enter Tryz.func60, Tryz.ntmps60
      go_wp2_with (go_at_call 59; refine (well_any s _ _ hs (by omega) (by omega)).mono ?_; rintro e w' ⟨rfl, rfl⟩; rw [Int.toNat_natCast])
      refine bodyPost_ret (v := .agg #[.int .i64 i, .int .i64 1, .int .i64 (-1)]) (by simp [results, Tryz.results60, go_sem]) rfl ⟨rfl, ?_⟩
      go_light
      first | exact (Below.refl _ _).alloc (Nat.le_refl _) _ | exact ((((Below.refl _ _).alloc (Nat.le_refl _) _).setCell (Nat.le_refl _) _).setCell (Nat.le_refl _) _).setCell (Nat.le_refl _) _
  | false =>
    have e1 : Cu.chN s.data.toList i = (Cu.well s.data.toList i).2 := by unfold Cu.chN; rw [if_neg (by rw [hb]; decide)]
    have e2 : Cu.chCode s.data.toList i = (Cu.code s.data.toList i (Cu.well s.data.toList i).2 : Nat) := by unfold Cu.chCode; rw [if_neg (by rw [hb]; decide)]
    rw [e1, e2]
    unfold Cu.bad at hb
    simp only [decide_eq_false_iff_not] at hb
    have hz2 : (((Cu.well s.data.toList i).2 : Int) == 0) = false := by rw [beq_eq_false_iff_ne]; omega
    have hw2 : ¬ (Cu.well s.data.toList i).1 < (Cu.well s.data.toList i).2 := by omega
    have hn1 : 1 ≤ (Cu.well s.data.toList i).2 := by omega
    have hin2 : i + (Cu.well s.data.toList i).2 ≤ s.size := by omega
    clear hb e1 e2
    go_enter Tryz.func60, Tryz.ntmps60
    go_wp2_with (go_at_call 59; refine (well_any s _ _ hs (by omega) (by omega)).mono ?_; rintro e w' ⟨rfl, rfl⟩; rw [Int.toNat_natCast])
    refine (code_any s _ _ _ hs (by omega) (by omega) (by omega) (by omega)).mono ?_
    rintro e w' ⟨rfl, nq, rfl⟩
    rw [Int.toNat_natCast, Int.toNat_natCast]
    go_wp2
    refine bodyPost_ret (v := .agg #[.int .i64 i, .int .i64 (Cu.well s.data.toList i).2, .int .i64 (Cu.code s.data.toList i (Cu.well s.data.toList i).2)]) (by simp [results, Tryz.results60, go_sem]) rfl ⟨rfl, ?_⟩
    go_light
    exact (((below_drewN ((Below.refl _ _).alloc (Nat.le_refl _) _) nq).setCell (by simp) _).setCell (by simp) _).setCell (by simp) _

def CharsRel (s : ByteArray) (w : World) (v x : Value) (wr : World) : Prop :=
  ∃ (i f cap : Nat) (l : List Cu.Chr) (a : Option Addr), i ≤ s.size ∧ s.size ≤ i + f ∧ x = .int .i64 i ∧ v = .slice a l.length cap ∧ l.length ≤ i ∧ wr.ownsRow w.heap.size 91 3 (.slice a l.length cap) l.length (chrCells l) ∧ Below w.heap.size w wr ∧
    l ++ Cu.charsGo s.data.toList f i = Cu.chars s.data.toList
def CharsRes (s : ByteArray) (w : World) (e : Ending) (w' : World) : Prop :=
  ∃ (a : Option Addr) (cap : Nat), e = .returned (.slice a (Cu.chars s.data.toList).length cap) ∧ w'.ownsRow w.heap.size 91 3 (.slice a (Cu.chars s.data.toList).length cap) (Cu.chars s.data.toList).length (chrCells (Cu.chars s.data.toList)) ∧ Below w.heap.size w w'

theorem chars_done {s : ByteArray} {i f cap cap' : Nat} {l : List Cu.Chr} {a a' : Option Addr} {w w1 W w2 : World} (hi : i < s.size) (hf : s.size ≤ i + (f + 1)) (hl : l.length ≤ i) (hb : Below w.heap.size w w1) (hW : Below w1.heap.size w1 W) (hO : w1.ownsRow w.heap.size 91 3 (.slice a l.length cap) l.length (chrCells l))
    (ho : w2.ownsRow w.heap.size 91 3 (.slice a' (l.length + 1) cap') (l.length + 1) (chrCells l ++ [.int .i64 i, .int .i64 (Cu.chN s.data.toList i), .int .i64 (Cu.chCode s.data.toList i)])) (hg : W.grownBy w2 (Value.slice a l.length cap).ownBlock)
    (hgo : l ++ Cu.charsGo s.data.toList (f + 1) i = Cu.chars s.data.toList) : CharsRel s w (.slice a' (l.length + 1) cap') (.int .i64 ((i : Int) + Cu.chN s.data.toList i)) w2 := by
  have hlen : (l ++ [(i, Cu.chN s.data.toList i, Cu.chCode s.data.toList i)]).length = l.length + 1 := by simp
  have hn := Cu.chN_pos s.data.toList i
  rw [len_toList] at hn
  refine ⟨i + Cu.chN s.data.toList i, f, cap', l ++ [(i, Cu.chN s.data.toList i, Cu.chCode s.data.toList i)], a', hn.2.2 hi, by omega, by go_num, by rw [hlen], by rw [hlen]; omega, ?_, ?_, ?_⟩
  · rw [hlen, chrCells_snoc]; exact ho
  · have h1 := hb.size
    exact (hb.trans (hW.mono h1)).grown hg (by have := hW.size; omega) (fun k hk => (hO.lt k hk).1)
  · rw [← hgo, Cu.charsGo_step (by rw [len_toList]; exact hi)]; simp

set_option maxRecDepth 100000 in
set_option maxHeartbeats 1000000 in
theorem chars_any (s : ByteArray) (w : World) (hs : s.size ≤ 1048576) :
    Calls Tryz.prog 36 #[.string s] w fun e w' => CharsRes s w e w' := by
  obtain ⟨i0, ki, kz0, kz1, kz2⟩ := info_parts Tryz.info91
  go_enter Tryz.func36, Tryz.ntmps36
  go_wp2
  go_loopw [3, 4] (fun v x wr => CharsRel s w v x wr) (fun _ x _ => s.size + 1 - (intOf x).toNat)
  case atStart =>
    go_light
    exact ⟨0, s.size, 0, [], none, Nat.zero_le _, by omega, rfl, rfl, Nat.le_refl _, World.ownsRow_nil _ _ _ _, Below.refl _ _, by unfold Cu.chars; rw [len_toList]; rfl⟩
  case round =>
    obtain ⟨i, f, cap, l, a, hi, hf, rfl, rfl, hl, hown, hb, hgo⟩ := hrel
    have HO := hide hown
    have HG := hide hgo
    have HB := hide hb
    have hbs := hb.size
    clear hown hgo hb
    by_cases hlt : i < s.size
    · obtain ⟨g, rfl⟩ : ∃ g, f = g + 1 := ⟨f - 1, by omega⟩
      have hn := Cu.chN_pos s.data.toList i
      rw [len_toList] at hn
      have hn3 := hn.2.2 hlt
      have hn1 := hn.1
      clear hn
      go_wp2_with fail
      refine (charAt_any s i _ (by omega) hlt).mono ?_
      rintro e w1 ⟨rfl, hb1⟩
      have hO1 := hide (own_below (unhide HO) hb1)
      have hB1 := hide (below_two hb1 (unhide HB))
      have hs1 := hb1.size
      have hcap : (l.length + 1) * 24 ≤ 140737488355328 := by omega
      have hmax : l.length + 1 ≤ maxLen := by unfold maxLen; omega
      clear hb1
      go_wp2_with (at_builtin; refine wpList_append_own _ rfl (.tmp 13) (.tmp 15) 87 rfl w.heap.size 91 i0 (.agg #[.int .i64 0, .int .i64 0, .int .i64 0]) 3 24 Tryz.underlying87 ki kz0 kz1 kz2 rfl (by decide) (.slice a l.length cap) l.length (chrCells l) rfl (((unhide hO1).alloc _).alloc _) ⟨w1.heap.size + 1, 0, none⟩ 1 1 [.int .i64 i, .int .i64 (Cu.chN s.data.toList i), .int .i64 (Cu.chCode s.data.toList i)] rfl rfl (news_new _ _ (by simp) _ _) (one3 _ _ _) hmax hcap (by simp; omega) ?_; intro v' w2 hown' hgrow _; refine Hid.out ?_)
      refine hide ?_
      obtain ⟨a', cap', hv'⟩ := own_form hown'
      subst hv'
      have hblk := ((Blk.new w1 [.int .i64 i, .int .i64 (Cu.chN s.data.toList i), .int .i64 (Cu.chCode s.data.toList i)] 91).alloc (.cells #[.int .i64 i, .int .i64 (Cu.chN s.data.toList i), .int .i64 (Cu.chCode s.data.toList i)] 91)).grown hgrow (fun h => by have := ((unhide hO1).lt _ h.symm).2; omega)
      have hc1 : w2.cell? ⟨w1.heap.size, 1, none⟩ = some (.int .i64 (Cu.chN s.data.toList i)) := hblk.cell 1
      have hrel2 := hide (chars_done hlt hf hl (unhide hB1) (((Below.refl _ _).alloc (Nat.le_refl _) _).alloc (by simp) _) (unhide hO1) hown' hgrow (unhide HG))
      clear hown' hgrow hblk
      go_wp2
      go_roundw
      case rel => first | exact unhide hrel2 | ((repeat apply Exists.intro); exact ⟨unhide hrel2, rfl⟩)
      case measure => simp [intOf]; omega
    · have hr : Hid (CharsRes s w (.returned (.slice a l.length cap)) wr) := hide (by
        have e1 : l = Cu.chars s.data.toList := by rw [← unhide HG, Cu.charsGo_end (by rw [len_toList]; omega), List.append_nil]
        rw [e1] at HO ⊢
        exact ⟨a, cap, rfl, unhide HO, unhide HB⟩)
      go_wp2
      go_ret
      exact unhide hr
end Go.Proofs.YtbppbejigedioabGreatDoor
/- The reference's class of a character. -/
namespace Go.Proofs.YtbppbejigedioabGreatDoor
open Go.RowKit
namespace Cu
def hit (c : Int) (y : Item) : Bool := decide ((y.1 : Int) ≤ c ∧ c ≤ (y.2.1 : Int))
def hitLn (c : Int) (x : Ln) : Bool := x.items.any (hit c)
/-- The letter of a character's class. -/
def classOf (l : List Ln) (c : Int) : Nat := ((l.find? (hitLn c)).map fun x => x.name).getD 95
theorem classOf_none {l : List Ln} {c : Int} (h : l.find? (hitLn c) = none) : classOf l c = 95 := by unfold classOf; rw [h]; rfl
theorem classOf_some {l : List Ln} {c : Int} {x : Ln} (h : l.find? (hitLn c) = some x) : classOf l c = x.name := by unfold classOf; rw [h]; rfl
end Cu

set_option maxRecDepth 100000 in
set_option maxHeartbeats 1000000 in
theorem classOf_any (L : List (Cu.Ln × Refs)) (a : Option Addr) (cap base : Nat) (x : Cu.Chr) (w : World) (ho : w.ownsRow base 162 6 (.slice a L.length cap) L.length (linesCells L)) (hlo : LinesOwn w base L) (hL : L.length ≤ 12) (hI : ∀ y ∈ L, y.1.items.length ≤ 200) :
    Calls Tryz.prog 100 #[.slice a L.length cap, .agg #[.int .i64 x.1, .int .i64 x.2.1, .int .i64 x.2.2]] w fun e w' => e = .returned (.int .u8 (Cu.classOf (L.map Prod.fst) x.2.2)) ∧ Below w.heap.size w w' := by
  obtain ⟨at_, n_, c⟩ := x
  simp only
  have hrowlt : ∀ wr, Below w.heap.size w wr → wr.ownsRow base 162 6 (.slice a L.length cap) L.length (linesCells L) ∧ LinesOwn wr base L := fun wr hb => ⟨own_below ho hb, hlo.below hb⟩
  have HROW := hide hrowlt
  clear hrowlt ho hlo
  go_enter Tryz.func100, Tryz.ntmps100
  go_wp2
  go_loopw [5] (fun v wr => ∃ m : Nat, m ≤ L.length ∧ v = .int .i64 m ∧ Below w.heap.size w wr ∧ Blk wr w.heap.size [.int .i64 at_, .int .i64 n_, .int .i64 c] 91 ∧ ((L.map Prod.fst).take m).find? (Cu.hitLn c) = none) (fun v _ => 14 - (intOf v).toNat)
  case atStart =>
    go_light
    exact ⟨0, by omega, rfl, (Below.refl _ _).alloc (Nat.le_refl _) _, Blk.new w _ _, by simp⟩
  case round =>
    obtain ⟨m, hm, rfl, hbel, hB, hno⟩ := hrel
    have HNO := hide hno
    clear hno
    by_cases hml : m < L.length
    · obtain ⟨ho1, hlo1⟩ := unhide HROW wr hbel
      obtain ⟨g, x2, r2, rfl, a1, a2, a3, c0, c1, c2, c3, c4, c5⟩ := line_cells ho1 m hml
      have hI3 : x2.items.length ≤ 200 := hI _ a3
      have A2 := hide a2
      clear ho1 hlo1 a1 a2 a3 c0 c1 c2 c3 c4 c5
      go_wp2
      go_loopw [6] (fun v w2 => ∃ q : Nat, q ≤ x2.items.length ∧ v = .int .i64 q ∧ Below w.heap.size w w2 ∧ Blk w2 w.heap.size [.int .i64 at_, .int .i64 n_, .int .i64 c] 91 ∧ (x2.items.take q).any (Cu.hit c) = false) (fun v _ => 201 - (intOf v).toNat)
      case atStart =>
        go_light
        exact ⟨0, by omega, rfl, hbel, hB, by simp⟩
      case round =>
        clear hB
        obtain ⟨q, hq, rfl, hbel2, hB2, hnh⟩ := hrel
        have HNH := hide hnh
        clear hnh
        obtain ⟨ho2, hlo2⟩ := unhide HROW _ hbel2
        obtain ⟨g', x3, r3, hg', a1, a2, a3, c0, c1, c2, c3, c4, c5⟩ := line_cells ho2 m hml
        obtain rfl : g = g' := by simpa using hg'
        obtain rfl : x3 = x2 := by have h := unhide A2; rw [a2] at h; simpa using h
        have hown3 := hlo2 _ a3
        obtain ⟨b0, b1, b2, b3⟩ := hB2.three
        have hBlt := hB2.lt
        clear ho2 hlo2 hg' c2 c3 c4 c5 a1 a2 a3
        by_cases hql : q < x3.items.length
        · obtain ⟨gz, z, haz, f3, z0, z1, z2⟩ := item_cells hown3.1 q hql
          simp only at haz
          rw [haz] at c1
          have F3 := hide f3
          clear hown3 f3 haz
          have hnext : Hid (Cu.hit c z = false → (x3.items.take (q + 1)).any (Cu.hit c) = false) := hide (fun h => any_take_succ (unhide F3) (unhide HNH) h)
          have hcond : ¬ (z.1 : Int) ≤ c ∨ ((z.1 : Int) ≤ c ∧ ¬ c ≤ (z.2.1 : Int)) ∨ ((z.1 : Int) ≤ c ∧ c ≤ (z.2.1 : Int)) := by omega
          rcases hcond with h1 | ⟨h1, h2⟩ | ⟨h1, h2⟩
          · have hr := hide (unhide hnext (by unfold Cu.hit; rw [decide_eq_false_iff_not]; omega))
            have d1 : decide ((z.1 : Int) ≤ c) = false := by rw [decide_eq_false_iff_not]; exact h1
            clear h1
            go_wp2
            go_quiet (fail)
            have hfin : Hid (∀ k, ∃ q' : Nat, q' ≤ x3.items.length ∧ Value.int .i64 ((q : Int) + 1) = .int .i64 q' ∧ Below w.heap.size w (wr.drewN k) ∧ Blk (wr.drewN k) w.heap.size [.int .i64 at_, .int .i64 n_, .int .i64 c] 91 ∧ (x3.items.take q').any (Cu.hit c) = false) := hide (fun k => ⟨q + 1, by omega, by go_num, below_drewN hbel2 k, hB2.drewN k, unhide hr⟩)
            go_wp2
            go_roundw
            case rel => first | exact unhide hfin _ | ((repeat apply Exists.intro); exact ⟨unhide hfin _, rfl⟩)
            case measure => simp [intOf]; omega
          · have hr := hide (unhide hnext (by unfold Cu.hit; rw [decide_eq_false_iff_not]; omega))
            have d1 : decide ((z.1 : Int) ≤ c) = true := by rw [decide_eq_true_eq]; exact h1
            have d2 : decide (c ≤ (z.2.1 : Int)) = false := by rw [decide_eq_false_iff_not]; exact h2
            clear h1 h2
            go_wp2
            go_quiet (fail)
            have hfin : Hid (∀ k, ∃ q' : Nat, q' ≤ x3.items.length ∧ Value.int .i64 ((q : Int) + 1) = .int .i64 q' ∧ Below w.heap.size w (wr.drewN k) ∧ Blk (wr.drewN k) w.heap.size [.int .i64 at_, .int .i64 n_, .int .i64 c] 91 ∧ (x3.items.take q').any (Cu.hit c) = false) := hide (fun k => ⟨q + 1, by omega, by go_num, below_drewN hbel2 k, hB2.drewN k, unhide hr⟩)
            go_wp2
            go_roundw
            case rel => first | exact unhide hfin _ | ((repeat apply Exists.intro); exact ⟨unhide hfin _, rfl⟩)
            case measure => simp [intOf]; omega
          · have hr : Hid (Cu.classOf (L.map Prod.fst) c = x3.name) := hide (Cu.classOf_some (Cu.find_some_at (unhide A2) (unhide HNO) (by unfold Cu.hitLn; rw [List.any_eq_true]; exact ⟨z, List.mem_of_getElem? (unhide F3), by unfold Cu.hit; rw [decide_eq_true_eq]; exact ⟨h1, h2⟩⟩)))
            have d1 : decide ((z.1 : Int) ≤ c) = true := by rw [decide_eq_true_eq]; exact h1
            have d2 : decide (c ≤ (z.2.1 : Int)) = true := by rw [decide_eq_true_eq]; exact h2
            clear h1 h2
            go_wp2
            go_quiet (fail)
            go_wp2
            go_ret
            exact ⟨by rw [unhide hr]; rfl, below_drewN hbel2 _⟩
        · have hr : Hid (((L.map Prod.fst).take (m + 1)).find? (Cu.hitLn c) = none) := hide (Cu.find_none_succ (unhide A2) (unhide HNO) (by unfold Cu.hitLn; rw [← unhide HNH, List.take_of_length_le (by omega)]))
          go_wp2
          go_roundw
          case rel => first | exact ⟨m + 1, by omega, by go_num, hbel2, hB2, unhide hr⟩ | ((repeat apply Exists.intro); exact ⟨⟨m + 1, by omega, by go_num, hbel2, hB2, unhide hr⟩, rfl⟩)
          case measure => simp [intOf]; omega
    · have hr : Hid (Cu.classOf (L.map Prod.fst) c = 95) := hide (Cu.classOf_none (by rw [← unhide HNO, List.take_of_length_le (by simp; omega)]))
      go_wp2
      go_ret
      exact ⟨by rw [unhide hr]; rfl, hbel⟩
end Go.Proofs.YtbppbejigedioabGreatDoor
/- The reference's classes of all characters, and Classes. -/
namespace Go.Proofs.YtbppbejigedioabGreatDoor
open Go.RowKit

/-- The letters of the characters' classes. -/
def clsL (l : List Cu.Ln) (cs : List Cu.Chr) : List UInt8 := cs.map fun x => UInt8.ofNat (Cu.classOf l x.2.2)
def clsB (l : List Cu.Ln) (cs : List Cu.Chr) : ByteArray := ⟨(clsL l cs).toArray⟩

theorem chrCells_get (l : List Cu.Chr) (i j : Nat) (hi : i < l.length) (hj : j < 3) : (chrCells l)[i * 3 + j]? = ([.int .i64 l[i].1, .int .i64 l[i].2.1, .int .i64 l[i].2.2] : List Value)[j]? := by
  induction l generalizing i with
  | nil => simp at hi
  | cons y l ih =>
    cases i with
    | zero => simp only [chrCells, Nat.zero_mul, Nat.zero_add]; rw [List.getElem?_append_left (by simp; omega)]; rfl
    | succ i =>
      simp only [chrCells]
      rw [List.getElem?_append_right (by simp; omega), show (i + 1) * 3 + j - [Value.int .i64 y.1, Value.int .i64 y.2.1, Value.int .i64 y.2.2].length = i * 3 + j by simp; omega, ih i (by simpa using hi)]
      rfl
theorem chr_cells {w : World} {base cap : Nat} {l : List Cu.Chr} {a : Option Addr} (ho : w.ownsRow base 91 3 (.slice a l.length cap) l.length (chrCells l)) (i : Nat) (hi : i < l.length) :
    ∃ (g : Nat) (x : Cu.Chr), a = some ⟨g, 0, none⟩ ∧ l[i]? = some x ∧ g < w.heap.size ∧ w.cell? ⟨g, i * 3, none⟩ = some (.int .i64 x.1) ∧ w.cell? ⟨g, i * 3 + 1, none⟩ = some (.int .i64 x.2.1) ∧ w.cell? ⟨g, i * 3 + 2, none⟩ = some (.int .i64 x.2.2) := by
  rcases ho.2 with ⟨_, h2⟩ | ⟨g, cap', cur, hv, _, hh, h3, h4, _⟩
  · omega
  · simp only [Value.slice.injEq, true_and] at hv
    obtain ⟨rfl, rfl⟩ := hv
    have hc : ∀ j, j < 3 → w.cell? ⟨g, i * 3 + j, none⟩ = ([.int .i64 l[i].1, .int .i64 l[i].2.1, .int .i64 l[i].2.2] : List Value)[j]? := fun j hj => by
      rw [ho.cellAt (i * 3 + j) (by omega), chrCells_get l i j hi hj]
    exact ⟨g, l[i], rfl, by simp [hi], (Array.getElem?_eq_some_iff.1 hh).1, hc 0 (by omega), hc 1 (by omega), hc 2 (by omega)⟩

theorem clsB_size (l : List Cu.Ln) (cs : List Cu.Chr) : (clsB l cs).size = cs.length := by unfold clsB clsL; simp [ByteArray.size]
theorem conv_one (w : World) (c : Nat) : Sem.run Tryz.prog (convert 215 9 (.slice (some ⟨w.heap.size, 0, none⟩) 1 1)) (w.alloc (.cells #[.int .u8 c] 5)) = .ok (.string (strOfNums [(c : Int)])) (w.alloc (.cells #[.int .u8 c] 5)) :=
  run_convert_bytes_arg _ 215 5 Tryz.underlying215 Tryz.underlying5 w.heap.size 0 1 1 [(c : Int)] rfl (fun i hi => by
    obtain rfl : i = 0 := by omega
    exact (Blk.new w [.int .u8 (c : Int)] 5).cell 0) 9 Tryz.underlying9
theorem clsB_step {l : List Cu.Ln} {cs : List Cu.Chr} {n : Nat} {x : Cu.Chr} (h : cs[n]? = some x) : clsB l (cs.take n) ++ strOfNums [(Cu.classOf l x.2.2 : Int)] = clsB l (cs.take (n + 1)) := by
  apply ByteArray.ext
  rw [ByteArray.data_append]
  apply Array.toList_inj.1
  unfold clsB clsL strOfNums
  rw [List.take_add_one, h]
  simp

set_option maxRecDepth 100000 in
set_option maxHeartbeats 1000000 in
theorem classes_any (L : List (Cu.Ln × Refs)) (a : Option Addr) (cap base : Nat) (cs : List Cu.Chr) (ac : Option Addr) (capc basec : Nat) (w : World) (ho : w.ownsRow base 162 6 (.slice a L.length cap) L.length (linesCells L)) (hlo : LinesOwn w base L) (hL : L.length ≤ 12) (hI : ∀ y ∈ L, y.1.items.length ≤ 200)
    (hc : w.ownsRow basec 91 3 (.slice ac cs.length capc) cs.length (chrCells cs)) (hcl : cs.length ≤ 1048576) :
    Calls Tryz.prog 61 #[.slice a L.length cap, .slice ac cs.length capc] w fun e w' => e = .returned (.string (clsB (L.map Prod.fst) cs)) ∧ Below w.heap.size w w' := by
  have HO := hide ho
  have HLO := hide hlo
  have HI := hide hI
  have HC := hide hc
  clear ho hlo hI hc
  go_enter Tryz.func61, Tryz.ntmps61
  go_wp2
  go_loopw [5, 6] (fun v x wr => ∃ n : Nat, n ≤ cs.length ∧ x = .int .i64 n ∧ v = .string (clsB (L.map Prod.fst) (cs.take n)) ∧ Below w.heap.size w wr) (fun _ x _ => 1048578 - (intOf x).toNat)
  case atStart =>
    go_light
    exact ⟨0, Nat.zero_le _, rfl, rfl, Below.refl _ _⟩
  case round =>
    obtain ⟨n, hn, rfl, rfl, hb⟩ := hrel
    by_cases hlt : n < cs.length
    · obtain ⟨g, x, rfl, hx, hg, c0, c1, c2⟩ := chr_cells (own_below (unhide HC) hb) n hlt
      have hcall := fun W (hW : Below wr.heap.size wr W) => classOf_any L a cap base x W (own_below (own_below (unhide HO) hb) hW) (((unhide HLO).below hb).below hW) hL (unhide HI)
      have HCALL := hide hcall
      have HX := hide hx
      clear hcall hx
      go_wp2_with fail
      refine (unhide HCALL _ (Below.refl _ _)).mono ?_
      rintro e w1 ⟨rfl, hb1⟩
      have HB1 := hide (hb.trans (hb1.mono hb.size))
      have hconv := conv_one w1 (Cu.classOf (L.map Prod.fst) x.2.2)
      have hstep := hide (clsB_step (l := L.map Prod.fst) (unhide HX))
      have HB2 := hide ((unhide HB1).alloc (by have := (unhide HB1).size; omega) (.cells #[.int .u8 (Cu.classOf (L.map Prod.fst) x.2.2)] 5))
      have hsz : ¬ 9223372036854775807 < (clsB (L.map Prod.fst) (cs.take n)).size + (strOfNums [(Cu.classOf (L.map Prod.fst) x.2.2 : Int)]).size := by
        rw [clsB_size, strOfNums_size]; simp; omega
      have hrel : Hid (∃ m : Nat, m ≤ cs.length ∧ Value.int .i64 ((n : Int) + 1) = .int .i64 m ∧ Value.string (clsB (L.map Prod.fst) (cs.take n) ++ strOfNums [(Cu.classOf (L.map Prod.fst) x.2.2 : Int)]) = .string (clsB (L.map Prod.fst) (cs.take m)) ∧ Below w.heap.size w (w1.alloc (.cells #[.int .u8 (Cu.classOf (L.map Prod.fst) x.2.2)] 5))) :=
        hide ⟨n + 1, by omega, by go_num, by rw [unhide hstep], unhide HB2⟩
      clear hb1 HCALL
      go_wp2
      go_roundw
      case rel => first | exact unhide hrel | ((repeat apply Exists.intro); exact ⟨unhide hrel, rfl⟩)
      case measure => simp [intOf]; omega
    · have hr : Hid (clsB (L.map Prod.fst) (cs.take n) = clsB (L.map Prod.fst) cs) := hide (by rw [List.take_of_length_le (by omega)])
      go_wp2
      go_ret
      exact ⟨by rw [← unhide hr]; rfl, hb⟩

/-- What Classes answers. -/
def clsOut (f t : List UInt8) : ByteArray × Nat × Nat :=
  if (Cu.check f).1 = 0 then (clsB (Cu.readGo f 12 0 []).2.2 (Cu.chars t), 0, 0) else (⟨#[]⟩, (Cu.check f).1, (Cu.check f).2)
theorem check_ok {f : ByteArray} (h : (Cu.check f.data.toList).1 = 0) : f.size ≤ 200 ∧ (Cu.readGo f.data.toList 12 0 []).1 = true := by
  unfold Cu.check at h
  split at h
  · cases h
  · rename_i h1
    rw [len_toList] at h1
    split at h
    · cases h
    · rename_i h2
      exact ⟨by omega, by cases hq : (Cu.readGo f.data.toList 12 0 []).1 <;> simp_all⟩
theorem charsGo_len (s : List UInt8) (f i : Nat) : (Cu.charsGo s f i).length ≤ f := by
  induction f generalizing i with
  | zero => exact Nat.le_refl _
  | succ f ih =>
    rw [Cu.charsGo]
    split
    · have := ih (i + Cu.chN s i); simp; omega
    · simp
theorem chars_len (s : ByteArray) : (Cu.chars s.data.toList).length ≤ s.size := by
  unfold Cu.chars; have := charsGo_len s.data.toList s.data.toList.length 0; rw [len_toList] at this ⊢; exact this

end Go.Proofs.YtbppbejigedioabGreatDoor
