/- The reference's characters of a text. -/
import Derived.Test.YtkinfleecfddlaaGreatDoorWalkJ
import Derived.Test.YtkinfleecfddlaaGreatDoorWalkZ
namespace Go.Proofs.YtkinfleecfddlaaGreatDoor
open Go.RowKit
namespace Cu

/-- Is there no well-formed character at i? -/
def bad (s : List UInt8) (i : Nat) : Bool := decide ((well s i).2 = 0 ∨ (well s i).1 < (well s i).2)
def chN (s : List UInt8) (i : Nat) : Nat := if bad s i = true then 1 else (well s i).2
def chCode (s : List UInt8) (i : Nat) : Int := if bad s i = true then -1 else ((code s i (well s i).2 : Nat) : Int)
/-- A character of a text: where, how many bytes, its code point. -/
abbrev Chr := Nat × Nat × Int
def charsGo (s : List UInt8) : Nat → Nat → List Chr
  | 0, _ => []
  | f + 1, i => if i < s.length then (i, chN s i, chCode s i) :: charsGo s f (i + chN s i) else []
def chars (s : List UInt8) : List Chr := charsGo s s.length 0
theorem chN_pos (s : List UInt8) (i : Nat) : 1 ≤ chN s i ∧ chN s i ≤ 4 ∧ (i < s.length → i + chN s i ≤ s.length) := by
  have h1 := well_le s i
  unfold chN
  split
  · omega
  · rename_i hb
    unfold bad at hb
    simp only [decide_eq_true_eq] at hb
    refine ⟨by omega, by omega, fun h => ?_⟩
    have := well_in s i h
    omega
theorem charsGo_end {s : List UInt8} {f i : Nat} (h : s.length ≤ i) : charsGo s f i = [] := by
  cases f with
  | zero => rfl
  | succ f => rw [charsGo, if_neg (by omega)]
theorem charsGo_step {s : List UInt8} {f i : Nat} (h : i < s.length) : charsGo s (f + 1) i = (i, chN s i, chCode s i) :: charsGo s f (i + chN s i) := by
  rw [charsGo, if_pos h]
end Cu

def chrCells : List Cu.Chr → List Value
  | [] => []
  | x :: r => [.int .i64 x.1, .int .i64 x.2.1, .int .i64 x.2.2] ++ chrCells r
theorem chrCells_snoc (l : List Cu.Chr) (x : Cu.Chr) : chrCells (l ++ [x]) = chrCells l ++ [.int .i64 x.1, .int .i64 x.2.1, .int .i64 x.2.2] := by
  induction l with
  | nil => rfl
  | cons y l ih => simp [chrCells, ih]
theorem Tryz.info107 : (Tryz.prog.info? 107).map (fun i => (i.zero, i.size, i.bytes)) = some (some (.agg #[.int .i64 0, .int .i64 0, .int .i64 0]), 3, 24) := by kernel_rfl

set_option maxRecDepth 100000 in
set_option maxHeartbeats 400000 in
theorem charAt_any (s : ByteArray) (i : Nat) (w : World) (hs : s.size ≤ 140737488355328) (h1 : i < s.size) :
    Calls Tryz.prog 50 #[.string s, .int .i64 i] w fun e w' => e = .returned (.agg #[.int .i64 i, .int .i64 (Cu.chN s.data.toList i), .int .i64 (Cu.chCode s.data.toList i)]) ∧ Below w.heap.size w w' := by
  have hwl := Cu.well_le s.data.toList i
  have hin := Cu.well_in s.data.toList i (by rw [len_toList]; omega)
  rw [len_toList] at hin
  cases hb : Cu.bad s.data.toList i with
  | true =>
    have e1 : Cu.chN s.data.toList i = 1 := by unfold Cu.chN; rw [if_pos hb]
    have e2 : Cu.chCode s.data.toList i = -1 := by unfold Cu.chCode; rw [if_pos hb]
    rw [e1, e2]
    unfold Cu.bad at hb
    simp only [decide_eq_true_eq] at hb
    by_cases hz : (Cu.well s.data.toList i).2 = 0
    · have hz2 : (((Cu.well s.data.toList i).2 : Int) == 0) = true := by rw [hz]; rfl
      clear hz hb e1 e2
      go_enter Tryz.func50, Tryz.ntmps50
      go_wp2_with (go_at_call 76; refine (well_any s _ _ hs (by omega) (by omega)).mono ?_; rintro e w' ⟨rfl, rfl⟩; rw [Int.toNat_natCast])
      refine bodyPost_ret (v := .agg #[.int .i64 i, .int .i64 1, .int .i64 (-1)]) (by simp [results, Tryz.results50, go_sem]) rfl ⟨rfl, ?_⟩
      go_light
      first | exact (Below.refl _ _).alloc (Nat.le_refl _) _ | exact ((((Below.refl _ _).alloc (Nat.le_refl _) _).setCell (Nat.le_refl _) _).setCell (Nat.le_refl _) _).setCell (Nat.le_refl _) _
    · have hz2 : (((Cu.well s.data.toList i).2 : Int) == 0) = false := by rw [beq_eq_false_iff_ne]; omega
      have hz3 : (Cu.well s.data.toList i).1 < (Cu.well s.data.toList i).2 := by omega
      clear hz hb e1 e2
      go_enter Tryz.func50, Tryz.ntmps50
      go_wp2_with (go_at_call 76; refine (well_any s _ _ hs (by omega) (by omega)).mono ?_; rintro e w' ⟨rfl, rfl⟩; rw [Int.toNat_natCast])
      refine bodyPost_ret (v := .agg #[.int .i64 i, .int .i64 1, .int .i64 (-1)]) (by simp [results, Tryz.results50, go_sem]) rfl ⟨rfl, ?_⟩
      go_light
      first | exact (Below.refl _ _).alloc (Nat.le_refl _) _ | exact ((((Below.refl _ _).alloc (Nat.le_refl _) _).setCell (Nat.le_refl _) _).setCell (Nat.le_refl _) _).setCell (Nat.le_refl _) _
  | false =>
    have e1 : Cu.chN s.data.toList i = (Cu.well s.data.toList i).2 := by unfold Cu.chN; rw [if_neg (by rw [hb]; decide)]
    have e2 : Cu.chCode s.data.toList i = (Cu.code s.data.toList i (Cu.well s.data.toList i).2 : Nat) := by unfold Cu.chCode; rw [if_neg (by rw [hb]; decide)]
    rw [e1, e2]
    unfold Cu.bad at hb
    simp only [decide_eq_false_iff_not] at hb
    have hz2 : (((Cu.well s.data.toList i).2 : Int) == 0) = false := by rw [beq_eq_false_iff_ne]; omega
    have hw2 : ¬ (Cu.well s.data.toList i).1 < (Cu.well s.data.toList i).2 := by omega
    have hn1 : 1 ≤ (Cu.well s.data.toList i).2 := by omega
    have hin2 : i + (Cu.well s.data.toList i).2 ≤ s.size := by omega
    clear hb e1 e2
    go_enter Tryz.func50, Tryz.ntmps50
    go_wp2_with (go_at_call 76; refine (well_any s _ _ hs (by omega) (by omega)).mono ?_; rintro e w' ⟨rfl, rfl⟩; rw [Int.toNat_natCast])
    refine (code_any s _ _ _ hs (by omega) (by omega) (by omega) (by omega)).mono ?_
    rintro e w' ⟨rfl, nq, rfl⟩
    rw [Int.toNat_natCast, Int.toNat_natCast]
    go_wp2
    refine bodyPost_ret (v := .agg #[.int .i64 i, .int .i64 (Cu.well s.data.toList i).2, .int .i64 (Cu.code s.data.toList i (Cu.well s.data.toList i).2)]) (by simp [results, Tryz.results50, go_sem]) rfl ⟨rfl, ?_⟩
    go_light
    exact (((below_drewN ((Below.refl _ _).alloc (Nat.le_refl _) _) nq).setCell (by simp) _).setCell (by simp) _).setCell (by simp) _

def CharsRel (s : ByteArray) (w : World) (v x : Value) (wr : World) : Prop :=
  ∃ (i f cap : Nat) (l : List Cu.Chr) (a : Option Addr), i ≤ s.size ∧ s.size ≤ i + f ∧ x = .int .i64 i ∧ v = .slice a l.length cap ∧ l.length ≤ i ∧ wr.ownsRow w.heap.size 107 3 (.slice a l.length cap) l.length (chrCells l) ∧ Below w.heap.size w wr ∧
    l ++ Cu.charsGo s.data.toList f i = Cu.chars s.data.toList
def CharsRes (s : ByteArray) (w : World) (e : Ending) (w' : World) : Prop :=
  ∃ (a : Option Addr) (cap : Nat), e = .returned (.slice a (Cu.chars s.data.toList).length cap) ∧ w'.ownsRow w.heap.size 107 3 (.slice a (Cu.chars s.data.toList).length cap) (Cu.chars s.data.toList).length (chrCells (Cu.chars s.data.toList)) ∧ Below w.heap.size w w'

theorem chars_done {s : ByteArray} {i f cap cap' : Nat} {l : List Cu.Chr} {a a' : Option Addr} {w w1 W w2 : World} (hi : i < s.size) (hf : s.size ≤ i + (f + 1)) (hl : l.length ≤ i) (hb : Below w.heap.size w w1) (hW : Below w1.heap.size w1 W) (hO : w1.ownsRow w.heap.size 107 3 (.slice a l.length cap) l.length (chrCells l))
    (ho : w2.ownsRow w.heap.size 107 3 (.slice a' (l.length + 1) cap') (l.length + 1) (chrCells l ++ [.int .i64 i, .int .i64 (Cu.chN s.data.toList i), .int .i64 (Cu.chCode s.data.toList i)])) (hg : W.grownBy w2 (Value.slice a l.length cap).ownBlock)
    (hgo : l ++ Cu.charsGo s.data.toList (f + 1) i = Cu.chars s.data.toList) : CharsRel s w (.slice a' (l.length + 1) cap') (.int .i64 ((i : Int) + Cu.chN s.data.toList i)) w2 := by
  have hlen : (l ++ [(i, Cu.chN s.data.toList i, Cu.chCode s.data.toList i)]).length = l.length + 1 := by simp
  have hn := Cu.chN_pos s.data.toList i
  rw [len_toList] at hn
  refine ⟨i + Cu.chN s.data.toList i, f, cap', l ++ [(i, Cu.chN s.data.toList i, Cu.chCode s.data.toList i)], a', hn.2.2 hi, by omega, by go_num, by rw [hlen], by rw [hlen]; omega, ?_, ?_, ?_⟩
  · rw [hlen, chrCells_snoc]; exact ho
  · have h1 := hb.size
    exact (hb.trans (hW.mono h1)).grown hg (by have := hW.size; omega) (fun k hk => (hO.lt k hk).1)
  · rw [← hgo, Cu.charsGo_step (by rw [len_toList]; exact hi)]; simp

set_option maxRecDepth 100000 in
set_option maxHeartbeats 1000000 in
theorem chars_any (s : ByteArray) (w : World) (hs : s.size ≤ 1048576) :
    Calls Tryz.prog 29 #[.string s] w fun e w' => CharsRes s w e w' := by
  obtain ⟨i0, ki, kz0, kz1, kz2⟩ := info_parts Tryz.info107
  go_enter Tryz.func29, Tryz.ntmps29
  go_wp2
  go_loopw [3, 4] (fun v x wr => CharsRel s w v x wr) (fun _ x _ => s.size + 1 - (intOf x).toNat)
  case atStart =>
    go_light
    exact ⟨0, s.size, 0, [], none, Nat.zero_le _, by omega, rfl, rfl, Nat.le_refl _, World.ownsRow_nil _ _ _ _, Below.refl _ _, by unfold Cu.chars; rw [len_toList]; rfl⟩
  case round =>
    obtain ⟨i, f, cap, l, a, hi, hf, rfl, rfl, hl, hown, hb, hgo⟩ := hrel
    have HO := hide hown
    have HG := hide hgo
    have HB := hide hb
    have hbs := hb.size
    clear hown hgo hb
    by_cases hlt : i < s.size
    · obtain ⟨g, rfl⟩ : ∃ g, f = g + 1 := ⟨f - 1, by omega⟩
      have hn := Cu.chN_pos s.data.toList i
      rw [len_toList] at hn
      have hn3 := hn.2.2 hlt
      have hn1 := hn.1
      clear hn
      go_wp2_with fail
      refine (charAt_any s i _ (by omega) hlt).mono ?_
      rintro e w1 ⟨rfl, hb1⟩
      have hO1 := hide (own_below (unhide HO) hb1)
      have hB1 := hide (below_two hb1 (unhide HB))
      have hs1 := hb1.size
      have hcap : (l.length + 1) * 24 ≤ 140737488355328 := by omega
      have hmax : l.length + 1 ≤ maxLen := by unfold maxLen; omega
      clear hb1
      go_wp2_with (at_builtin; refine wpList_append_own _ rfl (.tmp 13) (.tmp 15) 63 rfl w.heap.size 107 i0 (.agg #[.int .i64 0, .int .i64 0, .int .i64 0]) 3 24 Tryz.underlying63 ki kz0 kz1 kz2 rfl (by decide) (.slice a l.length cap) l.length (chrCells l) rfl (((unhide hO1).alloc _).alloc _) ⟨w1.heap.size + 1, 0, none⟩ 1 1 [.int .i64 i, .int .i64 (Cu.chN s.data.toList i), .int .i64 (Cu.chCode s.data.toList i)] rfl rfl (news_new _ _ (by simp) _ _) (one3 _ _ _) hmax hcap (by simp; omega) ?_; intro v' w2 hown' hgrow _; refine Hid.out ?_)
      refine hide ?_
      obtain ⟨a', cap', hv'⟩ := own_form hown'
      subst hv'
      have hblk := ((Blk.new w1 [.int .i64 i, .int .i64 (Cu.chN s.data.toList i), .int .i64 (Cu.chCode s.data.toList i)] 107).alloc (.cells #[.int .i64 i, .int .i64 (Cu.chN s.data.toList i), .int .i64 (Cu.chCode s.data.toList i)] 107)).grown hgrow (fun h => by have := ((unhide hO1).lt _ h.symm).2; omega)
      have hc1 : w2.cell? ⟨w1.heap.size, 1, none⟩ = some (.int .i64 (Cu.chN s.data.toList i)) := hblk.cell 1
      have hrel2 := hide (chars_done hlt hf hl (unhide hB1) (((Below.refl _ _).alloc (Nat.le_refl _) _).alloc (by simp) _) (unhide hO1) hown' hgrow (unhide HG))
      clear hown' hgrow hblk
      go_wp2
      go_roundw
      case rel => first | exact unhide hrel2 | ((repeat apply Exists.intro); exact ⟨unhide hrel2, rfl⟩)
      case measure => simp [intOf]; omega
    · have hr : Hid (CharsRes s w (.returned (.slice a l.length cap)) wr) := hide (by
        have e1 : l = Cu.chars s.data.toList := by rw [← unhide HG, Cu.charsGo_end (by rw [len_toList]; omega), List.append_nil]
        rw [e1] at HO ⊢
        exact ⟨a, cap, rfl, unhide HO, unhide HB⟩)
      go_wp2
      go_ret
      exact unhide hr
end Go.Proofs.YtkinfleecfddlaaGreatDoor
