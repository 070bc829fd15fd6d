/- The reference's classes of all characters, and Classes. -/
import Derived.Test.YtkinfleecfddlaaGreatDoorClsB
import Derived.Laws.BytesArg
namespace Go.Proofs.YtkinfleecfddlaaGreatDoor
open Go.RowKit

/-- The letters of the characters' classes. -/
def clsL (l : List Cu.Ln) (cs : List Cu.Chr) : List UInt8 := cs.map fun x => UInt8.ofNat (Cu.classOf l x.2.2)
def clsB (l : List Cu.Ln) (cs : List Cu.Chr) : ByteArray := ⟨(clsL l cs).toArray⟩

theorem chrCells_get (l : List Cu.Chr) (i j : Nat) (hi : i < l.length) (hj : j < 3) : (chrCells l)[i * 3 + j]? = ([.int .i64 l[i].1, .int .i64 l[i].2.1, .int .i64 l[i].2.2] : List Value)[j]? := by
  induction l generalizing i with
  | nil => simp at hi
  | cons y l ih =>
    cases i with
    | zero => simp only [chrCells, Nat.zero_mul, Nat.zero_add]; rw [List.getElem?_append_left (by simp; omega)]; rfl
    | succ i =>
      simp only [chrCells]
      rw [List.getElem?_append_right (by simp; omega), show (i + 1) * 3 + j - [Value.int .i64 y.1, Value.int .i64 y.2.1, Value.int .i64 y.2.2].length = i * 3 + j by simp; omega, ih i (by simpa using hi)]
      rfl
theorem chr_cells {w : World} {base cap : Nat} {l : List Cu.Chr} {a : Option Addr} (ho : w.ownsRow base 107 3 (.slice a l.length cap) l.length (chrCells l)) (i : Nat) (hi : i < l.length) :
    ∃ (g : Nat) (x : Cu.Chr), a = some ⟨g, 0, none⟩ ∧ l[i]? = some x ∧ g < w.heap.size ∧ w.cell? ⟨g, i * 3, none⟩ = some (.int .i64 x.1) ∧ w.cell? ⟨g, i * 3 + 1, none⟩ = some (.int .i64 x.2.1) ∧ w.cell? ⟨g, i * 3 + 2, none⟩ = some (.int .i64 x.2.2) := by
  rcases ho.2 with ⟨_, h2⟩ | ⟨g, cap', cur, hv, _, hh, h3, h4, _⟩
  · omega
  · simp only [Value.slice.injEq, true_and] at hv
    obtain ⟨rfl, rfl⟩ := hv
    have hc : ∀ j, j < 3 → w.cell? ⟨g, i * 3 + j, none⟩ = ([.int .i64 l[i].1, .int .i64 l[i].2.1, .int .i64 l[i].2.2] : List Value)[j]? := fun j hj => by
      rw [ho.cellAt (i * 3 + j) (by omega), chrCells_get l i j hi hj]
    exact ⟨g, l[i], rfl, by simp [hi], (Array.getElem?_eq_some_iff.1 hh).1, hc 0 (by omega), hc 1 (by omega), hc 2 (by omega)⟩

theorem clsB_size (l : List Cu.Ln) (cs : List Cu.Chr) : (clsB l cs).size = cs.length := by unfold clsB clsL; simp [ByteArray.size]
theorem conv_one (w : World) (c : Nat) : Sem.run Tryz.prog (convert 60 9 (.slice (some ⟨w.heap.size, 0, none⟩) 1 1)) (w.alloc (.cells #[.int .u8 c] 5)) = .ok (.string (strOfNums [(c : Int)])) (w.alloc (.cells #[.int .u8 c] 5)) :=
  run_convert_bytes_arg _ 60 5 Tryz.underlying60 Tryz.underlying5 w.heap.size 0 1 1 [(c : Int)] rfl (fun i hi => by
    obtain rfl : i = 0 := by omega
    exact (Blk.new w [.int .u8 (c : Int)] 5).cell 0) 9 Tryz.underlying9
theorem clsB_step {l : List Cu.Ln} {cs : List Cu.Chr} {n : Nat} {x : Cu.Chr} (h : cs[n]? = some x) : clsB l (cs.take n) ++ strOfNums [(Cu.classOf l x.2.2 : Int)] = clsB l (cs.take (n + 1)) := by
  apply ByteArray.ext
  rw [ByteArray.data_append]
  apply Array.toList_inj.1
  unfold clsB clsL strOfNums
  rw [List.take_add_one, h]
  simp

set_option maxRecDepth 100000 in
set_option maxHeartbeats 1000000 in
theorem classes_any (L : List (Cu.Ln × Refs)) (a : Option Addr) (cap base : Nat) (cs : List Cu.Chr) (ac : Option Addr) (capc basec : Nat) (w : World) (ho : w.ownsRow base 93 6 (.slice a L.length cap) L.length (linesCells L)) (hlo : LinesOwn w base L) (hL : L.length ≤ 12) (hI : ∀ y ∈ L, y.1.items.length ≤ 200)
    (hc : w.ownsRow basec 107 3 (.slice ac cs.length capc) cs.length (chrCells cs)) (hcl : cs.length ≤ 1048576) :
    Calls Tryz.prog 30 #[.slice a L.length cap, .slice ac cs.length capc] w fun e w' => e = .returned (.string (clsB (L.map Prod.fst) cs)) ∧ Below w.heap.size w w' := by
  have HO := hide ho
  have HLO := hide hlo
  have HI := hide hI
  have HC := hide hc
  clear ho hlo hI hc
  go_enter Tryz.func30, Tryz.ntmps30
  go_wp2
  go_loopw [5, 6] (fun v x wr => ∃ n : Nat, n ≤ cs.length ∧ x = .int .i64 n ∧ v = .string (clsB (L.map Prod.fst) (cs.take n)) ∧ Below w.heap.size w wr) (fun _ x _ => 1048578 - (intOf x).toNat)
  case atStart =>
    go_light
    exact ⟨0, Nat.zero_le _, rfl, rfl, Below.refl _ _⟩
  case round =>
    obtain ⟨n, hn, rfl, rfl, hb⟩ := hrel
    by_cases hlt : n < cs.length
    · obtain ⟨g, x, rfl, hx, hg, c0, c1, c2⟩ := chr_cells (own_below (unhide HC) hb) n hlt
      have hcall := fun W (hW : Below wr.heap.size wr W) => classOf_any L a cap base x W (own_below (own_below (unhide HO) hb) hW) (((unhide HLO).below hb).below hW) hL (unhide HI)
      have HCALL := hide hcall
      have HX := hide hx
      clear hcall hx
      go_wp2_with fail
      refine (unhide HCALL _ (Below.refl _ _)).mono ?_
      rintro e w1 ⟨rfl, hb1⟩
      have HB1 := hide (hb.trans (hb1.mono hb.size))
      have hconv := conv_one w1 (Cu.classOf (L.map Prod.fst) x.2.2)
      have hstep := hide (clsB_step (l := L.map Prod.fst) (unhide HX))
      have HB2 := hide ((unhide HB1).alloc (by have := (unhide HB1).size; omega) (.cells #[.int .u8 (Cu.classOf (L.map Prod.fst) x.2.2)] 5))
      have hsz : ¬ 9223372036854775807 < (clsB (L.map Prod.fst) (cs.take n)).size + (strOfNums [(Cu.classOf (L.map Prod.fst) x.2.2 : Int)]).size := by
        rw [clsB_size, strOfNums_size]; simp; omega
      have hrel : Hid (∃ m : Nat, m ≤ cs.length ∧ Value.int .i64 ((n : Int) + 1) = .int .i64 m ∧ Value.string (clsB (L.map Prod.fst) (cs.take n) ++ strOfNums [(Cu.classOf (L.map Prod.fst) x.2.2 : Int)]) = .string (clsB (L.map Prod.fst) (cs.take m)) ∧ Below w.heap.size w (w1.alloc (.cells #[.int .u8 (Cu.classOf (L.map Prod.fst) x.2.2)] 5))) :=
        hide ⟨n + 1, by omega, by go_num, by rw [unhide hstep], unhide HB2⟩
      clear hb1 HCALL
      go_wp2
      go_roundw
      case rel => first | exact unhide hrel | ((repeat apply Exists.intro); exact ⟨unhide hrel, rfl⟩)
      case measure => simp [intOf]; omega
    · have hr : Hid (clsB (L.map Prod.fst) (cs.take n) = clsB (L.map Prod.fst) cs) := hide (by rw [List.take_of_length_le (by omega)])
      go_wp2
      go_ret
      exact ⟨by rw [← unhide hr]; rfl, hb⟩

/-- What Classes answers. -/
def clsOut (f t : List UInt8) : ByteArray × Nat × Nat :=
  if (Cu.check f).1 = 0 then (clsB (Cu.readGo f 12 0 []).2.2 (Cu.chars t), 0, 0) else (⟨#[]⟩, (Cu.check f).1, (Cu.check f).2)
theorem check_ok {f : ByteArray} (h : (Cu.check f.data.toList).1 = 0) : f.size ≤ 200 ∧ (Cu.readGo f.data.toList 12 0 []).1 = true := by
  unfold Cu.check at h
  split at h
  · cases h
  · rename_i h1
    rw [len_toList] at h1
    split at h
    · cases h
    · rename_i h2
      exact ⟨by omega, by cases hq : (Cu.readGo f.data.toList 12 0 []).1 <;> simp_all⟩
theorem charsGo_len (s : List UInt8) (f i : Nat) : (Cu.charsGo s f i).length ≤ f := by
  induction f generalizing i with
  | zero => exact Nat.le_refl _
  | succ f ih =>
    rw [Cu.charsGo]
    split
    · have := ih (i + Cu.chN s i); simp; omega
    · simp
theorem chars_len (s : ByteArray) : (Cu.chars s.data.toList).length ≤ s.size := by
  unfold Cu.chars; have := charsGo_len s.data.toList s.data.toList.length 0; rw [len_toList] at this ⊢; exact this

set_option maxRecDepth 100000 in
set_option maxHeartbeats 1000000 in
theorem refClasses_any (f t : ByteArray) (w : World) (hf : f.size ≤ 9223372036854775807) (ht : t.size ≤ 1048576) :
    Calls Tryz.prog 15 #[.string f, .string t] w fun e w' => e = .returned (.tuple #[.string (clsOut f.data.toList t.data.toList).1, .int .i64 (clsOut f.data.toList t.data.toList).2.1, .int .i64 (clsOut f.data.toList t.data.toList).2.2]) ∧ Below w.heap.size w w' := by
  go_enter Tryz.func15, Tryz.ntmps15
  go_wp2_with fail
  refine (refCheck_any f _ hf).mono ?_
  rintro e w1 ⟨rfl, hb1⟩
  have hb1s := hb1.size
  have HB1 := hide hb1
  clear hb1
  by_cases h0 : (Cu.check f.data.toList).1 = 0
  · have hout : Hid (clsOut f.data.toList t.data.toList = (clsB (Cu.readGo f.data.toList 12 0 []).2.2 (Cu.chars t.data.toList), 0, 0)) := hide (by unfold clsOut; rw [if_pos h0])
    obtain ⟨hsz, hok⟩ := check_ok h0
    have hd : (((Cu.check f.data.toList).1 : Int) != 0) = false := by rw [h0]; rfl
    have HOK := hide hok
    have HF := hide (Cu.readGo_fine f.data.toList 12 0 [] (fun x hx => by simp at hx))
    clear h0 hok
    go_wp2_with fail
    refine (read_any f _ hsz).mono ?_
    rintro e w2 (⟨p, hg, rfl, hb2⟩ | ⟨p, cap, l, a, hg, rfl, ho, hlo, hb2⟩)
    · exfalso
      have h := unhide HOK
      rw [hg] at h
      cases h
    · have hfin : Hid (clsOut f.data.toList t.data.toList = (clsB (l.map Prod.fst) (Cu.chars t.data.toList), 0, 0)) := hide (by rw [unhide hout, hg])
      have hF := unhide HF
      rw [hg] at hF
      have hl12 : l.length ≤ 12 := by have := hF.2; simpa using this
      have HI : Hid (∀ y ∈ l, y.1.items.length ≤ 200) := hide (fun y hy => by
        have h1 := (hF.1 y.1 (List.mem_map.2 ⟨y, hy, rfl⟩)).1
        rw [len_toList] at h1
        omega)
      have HO := hide ho
      have HLO := hide hlo
      have HB2 := hide (below_two hb2 (unhide HB1))
      clear hg ho hlo hb2 hF hout HOK HF
      go_wp2_with fail
      refine (chars_any t _ ht).mono ?_
      rintro e w3 ⟨ac, capc, rfl, hoc, hb3⟩
      have hcl := chars_len t
      have HO3 := hide (own_below (unhide HO) hb3)
      have HLO3 := hide ((unhide HLO).below hb3)
      have HB3 := hide (below_two hb3 (unhide HB2))
      have HOC := hide hoc
      clear hoc hb3
      go_wp2_with fail
      refine (classes_any l a cap _ _ ac capc _ _ (unhide HO3) (unhide HLO3) hl12 (unhide HI) (unhide HOC) (by omega)).mono ?_
      rintro e w4 ⟨rfl, hb4⟩
      have HB4 := hide (below_two hb4 (unhide HB3))
      clear hb4
      go_wp2
      go_ret3
      exact ⟨by rw [unhide hfin]; rfl, unhide HB4⟩
  · have hout : Hid (clsOut f.data.toList t.data.toList = (⟨#[]⟩, (Cu.check f.data.toList).1, (Cu.check f.data.toList).2)) := hide (by unfold clsOut; rw [if_neg h0])
    have hd : (((Cu.check f.data.toList).1 : Int) != 0) = true := by rw [bne_iff_ne]; omega
    clear h0
    go_wp2
    go_ret3
    exact ⟨by rw [unhide hout]; rfl, unhide HB1⟩
end Go.Proofs.YtkinfleecfddlaaGreatDoor
