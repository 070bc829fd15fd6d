/- Walks: begun. -/
import Derived.Test.YtbppbejigedioabGreatDoorWalkM
import Derived.Test.YtbppbejigedioabGreatDoorPlainB
import Derived.Lib.IndexBytes
import Derived.WalkMore
namespace Go.Proofs.YtbppbejigedioabGreatDoor
open Go.RowKit

theorem take_byt (l : List UInt8) (m k : Nat) (h : k < m) : Cu.byt (l.take m) k = Cu.byt l k := by
  unfold Cu.byt
  rw [List.getD_eq_getElem?_getD, List.getD_eq_getElem?_getD, List.getElem?_take_of_lt h]
theorem drop_byt (l : List UInt8) (i k : Nat) : Cu.byt (l.drop i) k = Cu.byt l (i + k) := by
  unfold Cu.byt
  rw [List.getD_eq_getElem?_getD, List.getD_eq_getElem?_getD, List.getElem?_drop]
theorem wk_drop (l : List UInt8) (i n f lo hi k : Nat) (h : i ≤ l.length) : Cu.wk (l.drop i) 0 n f lo hi k = Cu.wk l i n f lo hi k := by
  induction f generalizing lo hi k with
  | zero => rfl
  | succ f ih =>
    rw [Cu.wk_s, Cu.wk_s, ih]
    simp only [drop_byt, List.length_drop, Nat.zero_add]
    by_cases hk : k < l.length - i
    · have : i + k < l.length := by omega
      simp [hk, this]
    · have : ¬ i + k < l.length := by omega
      simp [hk, this]
theorem well_drop (l : List UInt8) (i : Nat) (h : i ≤ l.length) : Cu.well (l.drop i) 0 = Cu.well l i := by
  unfold Cu.well
  rw [drop_byt, wk_drop _ _ _ _ _ _ _ h]
  rfl
theorem begN_drop (l : List UInt8) (i : Nat) (h : i ≤ l.length) : Cu.begN (l.drop i) 0 = Cu.begN l i := by
  unfold Cu.begN
  rw [well_drop _ _ h, drop_byt, List.length_drop]
  have e : (¬ 0 < l.length - i) = (¬ i < l.length) := propext ⟨fun h => by omega, fun h => by omega⟩
  simp only [e, Nat.add_zero]

theorem extract_list (t : ByteArray) (a b : Nat) : (t.extract a b).data.toList = (t.data.toList.take b).drop a := by
  simp [ByteArray.data_extract, Array.toList_extract, List.extract_eq_take_drop, List.drop_take]

theorem tabs_grown {w w' : World} {row : Option Nat} (h : Tabs w) (hg : w.grownBy w' row) (h1 : some 1 ≠ row) (h2 : some 2 ≠ row) : Tabs w' :=
  ⟨fun c hc => hg.cell (h.1 c hc) h1, fun i hi => ⟨hg.cell (h.2 i hi).1 h2, hg.cell (h.2 i hi).2 h2⟩⟩
theorem tabs_below {w w' : World} (h : Tabs w) (hb : Below w.heap.size w w') : Tabs w' := tabs_grown h (grown_of_below hb none) (by simp) (by simp)
theorem fullB_take (l : List UInt8) (n : Nat) : fullB (n + 1) (Lib.firstT (Cu.byt (l.take (n + 1)) 0)) (Cu.byt (l.take (n + 1)) 1) (Cu.byt (l.take (n + 1)) 2) = Cu.fullB (n + 1) (Lib.firstT (Cu.byt l 0)) (Cu.byt l 1) (Cu.byt l 2) := by
  rw [take_byt l (n + 1) 0 (by omega)]
  unfold fullB Cu.fullB
  by_cases h1 : 1 < n + 1
  · rw [take_byt l (n + 1) 1 h1]
    by_cases h2 : 2 < n + 1
    · rw [take_byt l (n + 1) 2 h2]
    · simp only [h2, false_and, if_false]
  · have h2 : ¬ 2 < n + 1 := by omega
    simp only [h1, h2, false_and, if_false]

set_option maxRecDepth 100000 in
set_option maxHeartbeats 1000000 in
theorem begun_any (t : ByteArray) (w : World) (hT : Tabs w) (ht : t.size ≤ 200) :
    Calls Tryz.prog 180 #[.string t] w fun e w' => e = .returned (.int .i64 (Cu.begN t.data.toList 0)) ∧ Below w.heap.size w w' := by
  have hbl := Cu.begN_le t.data.toList 0
  rw [len_toList] at hbl
  go_enter Tryz.func180, Tryz.ntmps180
  go_wp2
  go_loopw [3] (fun x wr => ∃ n : Nat, n ≤ Cu.begN t.data.toList 0 ∧ x = .int .i64 n ∧ Below w.heap.size w wr) (fun x _ => 201 - (intOf x).toNat)
  case atStart => exact ⟨0, by omega, rfl, Below.refl _ _⟩
  case round =>
    obtain ⟨n, hn, rfl, hbel⟩ := hrel
    by_cases hlt : n < t.size
    · have hfb : Hid (Cu.fullB (n + 1) (Lib.firstT (Cu.byt t.data.toList 0)) (Cu.byt t.data.toList 1) (Cu.byt t.data.toList 2) = decide (Cu.begN t.data.toList 0 ≤ n)) := hide (by
        have h := Cu.full_beg t.data.toList 0 n (by rw [len_toList]; omega) hn
        simpa using h)
      have hex : (t.extract 0 (n + 1)).size = n + 1 := by rw [ByteArray.size_extract]; omega
      have HEX := hide hex
      clear hex
      have hlist : Hid ((t.extract 0 (n + 1)).data.toList = t.data.toList.take (n + 1)) := hide (by rw [extract_list, List.drop_zero])
      go_wp2_with fail
      refine (fullRune_any (t.extract 0 (n + 1)) _ (tabs_below hT hbel) (by rw [unhide HEX]; omega) (by rw [unhide HEX]; omega)).mono ?_
      rintro e w1 ⟨rfl, hb1⟩
      rw [unhide HEX, unhide hlist, fullB_take, unhide hfb]
      have hbel1 := hide (hbel.trans (hb1.mono hbel.size))
      by_cases hdn : Cu.begN t.data.toList 0 ≤ n
      · have hd : decide (Cu.begN t.data.toList 0 ≤ n) = true := by simpa using hdn
        have hfin : Hid (n = Cu.begN t.data.toList 0) := hide (by omega)
        clear hdn
        go_wp2
        go_ret
        exact ⟨ret_int (by rw [← unhide hfin]), unhide hbel1⟩
      · have hd : decide (Cu.begN t.data.toList 0 ≤ n) = false := by simpa using hdn
        go_wp2
        go_roundw
        case rel => first | exact ⟨n + 1, by omega, by go_num, unhide hbel1⟩ | ((repeat apply Exists.intro); exact ⟨⟨n + 1, by omega, by go_num, unhide hbel1⟩, rfl⟩)
        case measure => simp [intOf]; omega
    · have hfin : Hid (n = Cu.begN t.data.toList 0) := hide (by
        by_cases h0 : 0 < t.size
        · have := hbl.2 h0; omega
        · have h1 : Cu.begN t.data.toList 0 = 0 := by unfold Cu.begN; rw [if_pos (by rw [len_toList]; exact h0)]
          omega)
      go_wp2
      go_ret
      exact ⟨ret_int (by rw [← unhide hfin]), hbel⟩
end Go.Proofs.YtbppbejigedioabGreatDoor
/- Walks: strings.IndexRune and ContainsRune at the barred signs, beyond ASCII. -/
namespace Go.Proofs.YtbppbejigedioabGreatDoor
open Go.RowKit

def barB : ByteArray := ⟨#[59, 61, 45, 33, 124]⟩

set_option maxRecDepth 100000 in
set_option maxHeartbeats 1000000 in
theorem indexRune_err (w : World) :
    Calls Tryz.prog 191 #[.string barB, .int .i32 65533] w fun e w' => e = .returned (.int .i64 (-1)) ∧ Below w.heap.size w w' := by
  go_enter Tryz.func191, Tryz.ntmps191
  go_wp2
  go_loopw [5] (fun _ w' => ∃ pos : Nat, pos ≤ 5 ∧ w' = w.iter barB pos) (fun _ w' => 5 - w'.iterPos w.heap.size)
  case atStart => exact ⟨0, by omega, rfl⟩
  case round =>
    obtain ⟨pos, hp, rfl⟩ := hrel
    by_cases h5 : pos = 5
    · subst h5
      have hnx : ∀ ty, (Instr.next (.pointer (some ⟨w.heap.size, 0, none⟩)) true ty).run Tryz.prog (w.iter barB 5) = _ := fun ty => run_next_end w barB 5 ty (by decide)
      go_wp2
      go_ret
      exact ⟨rfl, (Below.refl _ _).alloc (Nat.le_refl _) _⟩
    · have hall : pos = 0 ∨ pos = 1 ∨ pos = 2 ∨ pos = 3 ∨ pos = 4 := by omega
      clear h5 hp
      rcases hall with rfl | rfl | rfl | rfl | rfl
      · have hnx : ∀ ty, (Instr.next (.pointer (some ⟨w.heap.size, 0, none⟩)) true ty).run Tryz.prog (w.iter barB 0) = .ok (.tuple #[.bool true, .int .i64 0, .int .i32 59]) (w.iter barB 1) := fun ty => run_next_ascii w barB 0 ty (by decide) (by decide)
        go_wp2
        go_roundw
        case rel => first | exact ⟨1, by omega, rfl⟩ | ((repeat apply Exists.intro); exact ⟨⟨1, by omega, rfl⟩, rfl⟩)
        case measure => simp
      · have hnx : ∀ ty, (Instr.next (.pointer (some ⟨w.heap.size, 0, none⟩)) true ty).run Tryz.prog (w.iter barB 1) = .ok (.tuple #[.bool true, .int .i64 1, .int .i32 61]) (w.iter barB 2) := fun ty => run_next_ascii w barB 1 ty (by decide) (by decide)
        go_wp2
        go_roundw
        case rel => first | exact ⟨2, by omega, rfl⟩ | ((repeat apply Exists.intro); exact ⟨⟨2, by omega, rfl⟩, rfl⟩)
        case measure => simp
      · have hnx : ∀ ty, (Instr.next (.pointer (some ⟨w.heap.size, 0, none⟩)) true ty).run Tryz.prog (w.iter barB 2) = .ok (.tuple #[.bool true, .int .i64 2, .int .i32 45]) (w.iter barB 3) := fun ty => run_next_ascii w barB 2 ty (by decide) (by decide)
        go_wp2
        go_roundw
        case rel => first | exact ⟨3, by omega, rfl⟩ | ((repeat apply Exists.intro); exact ⟨⟨3, by omega, rfl⟩, rfl⟩)
        case measure => simp
      · have hnx : ∀ ty, (Instr.next (.pointer (some ⟨w.heap.size, 0, none⟩)) true ty).run Tryz.prog (w.iter barB 3) = .ok (.tuple #[.bool true, .int .i64 3, .int .i32 33]) (w.iter barB 4) := fun ty => run_next_ascii w barB 3 ty (by decide) (by decide)
        go_wp2
        go_roundw
        case rel => first | exact ⟨4, by omega, rfl⟩ | ((repeat apply Exists.intro); exact ⟨⟨4, by omega, rfl⟩, rfl⟩)
        case measure => simp
      · have hnx : ∀ ty, (Instr.next (.pointer (some ⟨w.heap.size, 0, none⟩)) true ty).run Tryz.prog (w.iter barB 4) = .ok (.tuple #[.bool true, .int .i64 4, .int .i32 124]) (w.iter barB 5) := fun ty => run_next_ascii w barB 4 ty (by decide) (by decide)
        go_wp2
        go_roundw
        case rel => first | exact ⟨5, by omega, rfl⟩ | ((repeat apply Exists.intro); exact ⟨⟨5, by omega, rfl⟩, rfl⟩)
        case measure => simp

theorem enc_facts (r : Int) (h1 : 128 ≤ r) (h2 : r ≤ 1114111) : (Utf8.encode r).size = 2 ∧ 128 ≤ Cu.byt (Utf8.encode r).data.toList 1 ∨ (Utf8.encode r).size = 3 ∧ 128 ≤ Cu.byt (Utf8.encode r).data.toList 2 ∨ (Utf8.encode r).size = 4 ∧ 128 ≤ Cu.byt (Utf8.encode r).data.toList 3 := by
  unfold Utf8.encode
  simp only
  generalize hc : (if Utf8.valid r = true then r.toNat else Utf8.runeError) = c
  have hc1 : 128 ≤ c := by
    rw [← hc]; split
    · omega
    · unfold Utf8.runeError; omega
  rw [if_neg (by omega)]
  have hm : ∀ n : Nat, 128 ≤ (UInt8.ofNat (0x80 + n % 64)).toNat := fun n => by
    rw [UInt8.toNat_ofNat']
    omega
  split
  · left; exact ⟨rfl, hm c⟩
  · split
    · right; left; exact ⟨rfl, hm c⟩
    · right; right; exact ⟨rfl, hm c⟩
theorem index_high (l : List UInt8) (hl : ∀ b ∈ l, b.toNat < 128) (c : Nat) (h1 : 128 ≤ c) (h2 : c < 256) : Lib.indexByte l (UInt8.ofNat c) = -1 := by
  induction l with
  | nil => rfl
  | cons b l ih =>
    have hb := hl b (by simp)
    have hne : (b == UInt8.ofNat c) = false := by
      rw [beq_eq_false_iff_ne]
      intro e
      rw [e, UInt8.toNat_ofNat'] at hb
      omega
    rw [Lib.indexByte, hne, ih (fun x hx => hl x (by simp [hx]))]
    rfl

set_option maxRecDepth 100000 in
set_option maxHeartbeats 1000000 in
theorem indexRune_2 (r : Int) (w : World) (h1 : 128 ≤ r) (h2 : r ≤ 1114111) (h3 : r ≠ 65533) (hv : Lib.validRune r = true) (hsz : (Utf8.encode r).size = 2) (hla : 128 ≤ Cu.byt (Utf8.encode r).data.toList 1) :
    Calls Tryz.prog 191 #[.string barB, .int .i32 r] w fun e w' => e = .returned (.int .i64 (-1)) ∧ Below w.heap.size w w' := by
  have h4 : (r == 65533) = false := by rw [beq_eq_false_iff_ne]; exact h3
  have hd : decide (r < 128) = false := by simp; omega
  have hb := byt_lt (Utf8.encode r).data.toList 1
  have hbe := byt_eq (Utf8.encode r) 1 (by omega)
  clear h3
  have hne : ((61 : Int) != ((Cu.byt (Utf8.encode r).data.toList 1 : Nat) : Int)) = true := by rw [bne_iff_ne]; omega
  have hcon : Hid (∀ wx : World, Calls Tryz.prog 142 #[.string (barB.extract 2 5), .int .u8 (Cu.byt (Utf8.encode r).data.toList 1)] wx fun e w' => e = .returned (.int .i64 (-1)) ∧ w' = wx) := hide (fun wx => by
    have h := Tryz.strings_IndexByte (barB.extract 2 5) (Cu.byt (Utf8.encode r).data.toList 1) wx
    have e1 : ((Cu.byt (Utf8.encode r).data.toList 1 : Nat) : Int).toNat.toUInt8 = UInt8.ofNat (Cu.byt (Utf8.encode r).data.toList 1) := by simp
    rw [e1, index_high _ (by rw [show (barB.extract 2 5).data.toList = [45, 33, 124] from rfl]; decide) _ hla hb] at h
    exact h)
  have hlt : (1 : Int) < ((Utf8.encode r).size : Int) := by omega
  have hbs : barB.size = 5 := rfl
  have hbv : (barB[1]'(by decide)).toNat = 61 := rfl
  go_enter Tryz.func191, Tryz.ntmps191
  go_wp2_with (first | (go_at_call 195; refine (Tryz.utf8_ValidRune r _).mono ?_; rintro e w' ⟨rfl, hw⟩; obtain rfl := hw.symm))
  go_step3
  go_wp2
  go_loopw [9] (fun x wr => x = .int .i64 1 ∧ ∃ q, wr = w.drewN q) (fun _ _ => 0)
  case atStart => exact ⟨rfl, 0, rfl⟩
  case round =>
    obtain ⟨rfl, q, rfl⟩ := hrel
    go_wp2
    go_step3
    go_wp2
    go_quiet (fail)
    go_wp2
    go_quiet ((go_at_call 142; exact (unhide hcon _).mono (fun _ _ h => ⟨h.1, _, h.2⟩)))
    go_wp2
    rw [Exit.noGoto_ret]
    go_wp2
    try rw [Exit.noGoto_ret]
    try go_wp2
    go_ret
    exact ⟨rfl, below_drewN (Below.refl _ _) _⟩

set_option maxRecDepth 100000 in
set_option maxHeartbeats 1000000 in
theorem indexRune_3 (r : Int) (w : World) (h1 : 128 ≤ r) (h2 : r ≤ 1114111) (h3 : r ≠ 65533) (hv : Lib.validRune r = true) (hsz : (Utf8.encode r).size = 3) (hla : 128 ≤ Cu.byt (Utf8.encode r).data.toList 2) :
    Calls Tryz.prog 191 #[.string barB, .int .i32 r] w fun e w' => e = .returned (.int .i64 (-1)) ∧ Below w.heap.size w w' := by
  have h4 : (r == 65533) = false := by rw [beq_eq_false_iff_ne]; exact h3
  have hd : decide (r < 128) = false := by simp; omega
  have hb := byt_lt (Utf8.encode r).data.toList 2
  have hbe := byt_eq (Utf8.encode r) 2 (by omega)
  clear h3
  have hne : ((45 : Int) != ((Cu.byt (Utf8.encode r).data.toList 2 : Nat) : Int)) = true := by rw [bne_iff_ne]; omega
  have hcon : Hid (∀ wx : World, Calls Tryz.prog 142 #[.string (barB.extract 3 5), .int .u8 (Cu.byt (Utf8.encode r).data.toList 2)] wx fun e w' => e = .returned (.int .i64 (-1)) ∧ w' = wx) := hide (fun wx => by
    have h := Tryz.strings_IndexByte (barB.extract 3 5) (Cu.byt (Utf8.encode r).data.toList 2) wx
    have e1 : ((Cu.byt (Utf8.encode r).data.toList 2 : Nat) : Int).toNat.toUInt8 = UInt8.ofNat (Cu.byt (Utf8.encode r).data.toList 2) := by simp
    rw [e1, index_high _ (by rw [show (barB.extract 3 5).data.toList = [33, 124] from rfl]; decide) _ hla hb] at h
    exact h)
  have hlt : (2 : Int) < ((Utf8.encode r).size : Int) := by omega
  have hbs : barB.size = 5 := rfl
  have hbv : (barB[2]'(by decide)).toNat = 45 := rfl
  go_enter Tryz.func191, Tryz.ntmps191
  go_wp2_with (first | (go_at_call 195; refine (Tryz.utf8_ValidRune r _).mono ?_; rintro e w' ⟨rfl, hw⟩; obtain rfl := hw.symm))
  go_step3
  go_wp2
  go_loopw [9] (fun x wr => x = .int .i64 2 ∧ ∃ q, wr = w.drewN q) (fun _ _ => 0)
  case atStart => exact ⟨rfl, 0, rfl⟩
  case round =>
    obtain ⟨rfl, q, rfl⟩ := hrel
    go_wp2
    go_step3
    go_wp2
    go_quiet (fail)
    go_wp2
    go_quiet ((go_at_call 142; exact (unhide hcon _).mono (fun _ _ h => ⟨h.1, _, h.2⟩)))
    go_wp2
    rw [Exit.noGoto_ret]
    go_wp2
    try rw [Exit.noGoto_ret]
    try go_wp2
    go_ret
    exact ⟨rfl, below_drewN (Below.refl _ _) _⟩

set_option maxRecDepth 100000 in
set_option maxHeartbeats 1000000 in
theorem indexRune_4 (r : Int) (w : World) (h1 : 128 ≤ r) (h2 : r ≤ 1114111) (h3 : r ≠ 65533) (hv : Lib.validRune r = true) (hsz : (Utf8.encode r).size = 4) (hla : 128 ≤ Cu.byt (Utf8.encode r).data.toList 3) :
    Calls Tryz.prog 191 #[.string barB, .int .i32 r] w fun e w' => e = .returned (.int .i64 (-1)) ∧ Below w.heap.size w w' := by
  have h4 : (r == 65533) = false := by rw [beq_eq_false_iff_ne]; exact h3
  have hd : decide (r < 128) = false := by simp; omega
  have hb := byt_lt (Utf8.encode r).data.toList 3
  have hbe := byt_eq (Utf8.encode r) 3 (by omega)
  clear h3
  have hne : ((33 : Int) != ((Cu.byt (Utf8.encode r).data.toList 3 : Nat) : Int)) = true := by rw [bne_iff_ne]; omega
  have hcon : Hid (∀ wx : World, Calls Tryz.prog 142 #[.string (barB.extract 4 5), .int .u8 (Cu.byt (Utf8.encode r).data.toList 3)] wx fun e w' => e = .returned (.int .i64 (-1)) ∧ w' = wx) := hide (fun wx => by
    have h := Tryz.strings_IndexByte (barB.extract 4 5) (Cu.byt (Utf8.encode r).data.toList 3) wx
    have e1 : ((Cu.byt (Utf8.encode r).data.toList 3 : Nat) : Int).toNat.toUInt8 = UInt8.ofNat (Cu.byt (Utf8.encode r).data.toList 3) := by simp
    rw [e1, index_high _ (by rw [show (barB.extract 4 5).data.toList = [124] from rfl]; decide) _ hla hb] at h
    exact h)
  have hlt : (3 : Int) < ((Utf8.encode r).size : Int) := by omega
  have hbs : barB.size = 5 := rfl
  have hbv : (barB[3]'(by decide)).toNat = 33 := rfl
  go_enter Tryz.func191, Tryz.ntmps191
  go_wp2_with (first | (go_at_call 195; refine (Tryz.utf8_ValidRune r _).mono ?_; rintro e w' ⟨rfl, hw⟩; obtain rfl := hw.symm))
  go_step3
  go_wp2
  go_loopw [9] (fun x wr => x = .int .i64 3 ∧ ∃ q, wr = w.drewN q) (fun _ _ => 0)
  case atStart => exact ⟨rfl, 0, rfl⟩
  case round =>
    obtain ⟨rfl, q, rfl⟩ := hrel
    go_wp2
    go_step3
    go_wp2
    go_quiet (fail)
    go_wp2
    go_quiet ((go_at_call 142; exact (unhide hcon _).mono (fun _ _ h => ⟨h.1, _, h.2⟩)))
    go_wp2
    rw [Exit.noGoto_ret]
    go_wp2
    try rw [Exit.noGoto_ret]
    try go_wp2
    go_ret
    exact ⟨rfl, below_drewN (Below.refl _ _) _⟩

theorem indexRune_big (r : Int) (w : World) (h1 : 128 ≤ r) (h2 : r ≤ 1114111) (hv : Lib.validRune r = true) :
    Calls Tryz.prog 191 #[.string barB, .int .i32 r] w fun e w' => e = .returned (.int .i64 (-1)) ∧ Below w.heap.size w w' := by
  by_cases h3 : r = 65533
  · subst h3; exact indexRune_err w
  · rcases enc_facts r h1 h2 with ⟨a, b⟩ | ⟨a, b⟩ | ⟨a, b⟩
    · exact indexRune_2 r w h1 h2 h3 hv a b
    · exact indexRune_3 r w h1 h2 h3 hv a b
    · exact indexRune_4 r w h1 h2 h3 hv a b

set_option maxRecDepth 100000 in
set_option maxHeartbeats 400000 in
theorem contains_big (r : Int) (w : World) (h1 : 128 ≤ r) (h2 : r ≤ 1114111) (hv : Lib.validRune r = true) :
    Calls Tryz.prog 179 #[.string barB, .int .i32 r] w fun e w' => e = .returned (.bool false) ∧ Below w.heap.size w w' := by
  go_enter Tryz.func179, Tryz.ntmps179
  go_wp2_with fail
  refine (indexRune_big r _ h1 h2 hv).mono ?_
  rintro e w1 ⟨rfl, hb1⟩
  go_wp2
  go_ret
  exact ⟨rfl, hb1⟩
end Go.Proofs.YtbppbejigedioabGreatDoor
