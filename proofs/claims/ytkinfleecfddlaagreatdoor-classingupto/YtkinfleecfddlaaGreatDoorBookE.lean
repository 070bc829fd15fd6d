/- Walks: add. -/
import Derived.Test.YtkinfleecfddlaaGreatDoorBookP
namespace Go.Proofs.YtkinfleecfddlaaGreatDoor
open Go.RowKit

theorem as_class_class (v : Value) (w : World) : (Instr.typeAssert (.iface 141 v) 81 141 true).run Tryz.prog w = .ok (.tuple #[v, .bool true]) w := by kernel_rfl
theorem as_rule_class (v : Value) (w : World) : (Instr.typeAssert (.iface 123 v) 81 141 true).run Tryz.prog w = .ok (.tuple #[.agg #[.int .i64 0, .int .i64 0, .slice none 0 0], .bool false]) w := by kernel_rfl
theorem as_rule_rule (v : Value) (w : World) : (Instr.typeAssert (.iface 123 v) 81 123 true).run Tryz.prog w = .ok (.tuple #[v, .bool true]) w := by kernel_rfl

/-- The rules behind a line. -/
def addRs (rs : List PLn) (x : PLn) : List PLn := if x.1.op = 0 then rs else rs ++ [x]
/-- What add answers. -/
def Added (w : World) (B : Nat) (nm : Nat → Bool) (its : List KItem) (rs : List PLn) (x : PLn) (e : Ending) (w' : World) : Prop :=
  (∃ c p : Nat, (addLine nm its x.1).1 = some (c, p) ∧ e = .returned (brokenV c p) ∧ Below B w w') ∨
  ((addLine nm its x.1).1 = none ∧ e = .returned .nilIface ∧ BookAt w' B (addLine nm its x.1).2.1 (addLine nm its x.1).2.2 (addRs rs x) ∧ Below B w w')

theorem added_class {w w' : World} {B k : Nat} {nm : Nat → Bool} {its : List KItem} {rs : List PLn} {x : PLn} {e : Ending} (h0 : x.1.op = 0) (hk : Cu.sk x.1.name = (k : Int)) (h : ClassAdded w B nm its rs k x.1.at_ x.1.items e w') : Added w B nm its rs x e w' := by
  have hkt : (Cu.sk x.1.name).toNat = k := by rw [hk]; simp
  unfold Added addLine addRs
  rw [if_pos h0, if_pos h0, hkt, hk]
  rcases h with ⟨hn, rfl, hb⟩ | ⟨c, p, its', hn, ha, rfl, hb⟩ | ⟨its', hn, ha, rfl, hB, hb⟩
  · left; rw [if_pos hn]; exact ⟨3, _, rfl, rfl, hb⟩
  · left; rw [if_neg (by rw [hn]; decide), ha]; exact ⟨c, p, rfl, rfl, hb⟩
  · right; rw [if_neg (by rw [hn]; decide), ha]; exact ⟨rfl, rfl, hB, hb⟩
theorem added_rule {w w' : World} {B : Nat} {nm : Nat → Bool} {its : List KItem} {rs : List PLn} {x : PLn} {e : Ending} (h0 : x.1.op ≠ 0) (h : RuleAdded w B nm its rs x e w') : Added w B nm its rs x e w' := by
  unfold Added addLine addRs
  rw [if_neg h0, if_neg h0]
  rcases h with ⟨p, hu, rfl, hb⟩ | ⟨hu, rfl, hB, hb⟩
  · left; rw [hu]; exact ⟨5, p.2.2, rfl, rfl, hb⟩
  · right; rw [hu]; exact ⟨rfl, rfl, hB, hb⟩
theorem added_form {w w' : World} {B : Nat} {nm : Nat → Bool} {its : List KItem} {rs : List PLn} {x : PLn} {e : Ending} (h : Added w B nm its rs x e w') : ∃ v, e = .returned v := by
  rcases h with ⟨c, p, _, rfl, _⟩ | ⟨_, rfl, _⟩ <;> exact ⟨_, rfl⟩

theorem added_from {w W w' : World} {B : Nat} {nm : Nat → Bool} {its : List KItem} {rs : List PLn} {x : PLn} {e : Ending} (hb : Below w.heap.size w W) (hB : B ≤ w.heap.size) (h : Added W B nm its rs x e w') : Added w B nm its rs x e w' := by
  have hb' : Below B w W := hb.mono hB
  rcases h with ⟨c, p, h1, h2, h3⟩ | ⟨h1, h2, h3, h4⟩
  · exact Or.inl ⟨c, p, h1, h2, hb'.trans h3⟩
  · exact Or.inr ⟨h1, h2, h3, hb'.trans h4⟩

set_option maxRecDepth 100000 in
set_option maxHeartbeats 1000000 in
theorem add_any (x : PLn) (B : Nat) (nm : Nat → Bool) (its : List KItem) (rs : List PLn) (w : World) (hB : BookAt w B nm its rs) (hS : Shape x.1) (hl : isLn x.1 = true) (hlen : its.length + x.1.items.length ≤ 4096) (h4 : x.1.left.length ≤ 4) (h4' : x.1.right.length ≤ 4) (hrs : rs.length ≤ 12)
    (ho : PLnOwn w 0 x.1 x.2.1 x.2.2) (hlow : ∀ n b, (Value.slice x.2.1 n x.2.2).ownBlock = some b → b < B) :
    Calls Tryz.prog 35 #[.pointer (some ⟨B, 0, none⟩), plv x] w fun e w' => Added w B nm its rs x e w' := by
  have hBlt := hB.lt
  by_cases h0 : x.1.op = 0
  · have hname : Cu.isName x.1.name = true := by
      rcases (hS.1 h0).2.2 with h | ⟨h, _⟩
      · exact h
      · unfold isLn at hl; rw [h, h0] at hl; cases hl
    obtain ⟨hk1, hk2, hk3⟩ := name_sk hname
    obtain ⟨k, hk⟩ : ∃ k : Nat, Cu.sk x.1.name = (k : Int) := ⟨x.1.name - 65, by omega⟩
    have hv : plv x = .iface 141 (.agg #[.int .i64 k, .int .i64 x.1.at_, .slice x.2.1 x.1.items.length x.2.2]) := by unfold plv plineV; rw [if_pos h0, hk]
    have hro : w.ownsRow 0 85 4 (.slice x.2.1 x.1.items.length x.2.2) x.1.items.length (pitemCells k x.1.items) := by unfold PLnOwn at ho; rw [if_pos h0, hk] at ho; exact ho
    have hc2 : Hid (∀ W, Below w.heap.size w W → Calls Tryz.prog 60 #[.pointer (some ⟨B, 0, none⟩), .agg #[.int .i64 k, .int .i64 x.1.at_, .slice x.2.1 x.1.items.length x.2.2]] W fun e w' => Added w B nm its rs x e w') := hide (fun W hW =>
      (addClass_any k x.1.at_ x.1.items x.2.1 x.2.2 B nm its rs W (hB.below hW) (by omega) hlen (own_below hro hW) (hlow _)).mono (fun e w' h => added_from hW (by omega) (added_class h0 hk h)))
    rw [hv]
    clear hB hro hlow ho hS hv hk hk1 hk2 hk3 h0
    have q1 := as_class_class
    go_enter Tryz.func35, Tryz.ntmps35
    go_wp2_with fail
    refine (unhide hc2 _ ((Below.refl _ _).alloc (Nat.le_refl _) _)).mono ?_
    rintro e w1 h
    obtain ⟨u, rfl⟩ := added_form h
    have HH := hide h
    clear h
    go_wp2
    go_ret
    exact unhide HH
  · have hro : w.ownsRow 0 171 2 (.slice x.2.1 x.1.right.length x.2.2) x.1.right.length (signCells x.1.right) := by unfold PLnOwn at ho; rw [if_neg h0] at ho; exact ho
    have hv : plv x = .iface 123 (.agg #[leftV x.1.left, .bool (x.1.op == 124), .slice x.2.1 x.1.right.length x.2.2]) := by unfold plv plineV; rw [if_neg h0]
    have hc := fun W (hW : Below w.heap.size w W) => (addRule_any x B nm its rs W (hB.below hW) h4 h4' hrs (fun a ha => (sign_sk ((hS.2 h0).2.2 a ha)).1) (own_below hro hW)).mono (fun e w' h => added_from hW (by omega) (added_rule h0 h))
    obtain ⟨tl, vl, hvl⟩ := leftV_iface x.1.left
    rw [hvl] at hc hv
    rw [hv]
    have hc2 := hide hc
    clear hc hB hro hlow ho hS hv hvl h0
    have q1 := as_rule_class
    have q2 := as_rule_rule
    go_enter Tryz.func35, Tryz.ntmps35
    go_wp2_with fail
    refine (unhide hc2 _ ((Below.refl _ _).alloc (Nat.le_refl _) _)).mono ?_
    rintro e w1 h
    obtain ⟨u, rfl⟩ := added_form h
    have HH := hide h
    clear h
    go_wp2
    go_ret
    exact unhide HH
end Go.Proofs.YtkinfleecfddlaaGreatDoor
