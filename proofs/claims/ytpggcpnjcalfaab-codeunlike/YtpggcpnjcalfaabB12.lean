/-
  Texts laid together in one: Draw, DrawAppend, WordsTextEnd, WordsText, WordsText2, SlicesClone, Ref01Byte, Ref01Text, WordsTextSame, WordsReader, WordsReaderCalls.
-/
import Derived.OrdersIn
import Derived.RangeFuncNested
import Derived.Test.YtpggcpnjcalfaabB01
import Derived.Deep.AppendLies
import Derived.WalkSpells
import Derived.WalkMore
import Derived.Test.YtpggcpnjcalfaabProg
import Derived.Test.YtpggcpnjcalfaabB10
import Derived.Test.YtpggcpnjcalfaabB02
import Derived.Deep.QuietTactic
import Derived.BigQuiet
/-
  A region that draws its order, in a round or out of one: an operation that yields the same in every world of a class that no operation of the region leaves may be taken first.
-/
namespace Go.Proofs.Ytpggcpnjcalfaab
open Go.RowKit
set_option linter.unusedVariables false

section
variable {F : Fence} {n : Nat} {P : Program} {md : Region.Mode} {ops : Array Oper} {C : World → Prop} {Q : Exit → Act → World → Prop}

/-- As wpAnyIn, and each operation leaves a world of the class. -/
def wpAnyC (F : Fence) (n : Nat) (P : Program) (md : Region.Mode) (ops : Array Oper) (C : World → Prop) (Q : Exit → Act → World → Prop) : Nat → Array Bool → Act → World → Prop
  | 0, listed, a, w => Region.ready md ops listed = [] ∧ Q .normal a w
  | fuel + 1, listed, a, w => (Region.ready md ops listed = [] → Q .normal a w) ∧ ∀ i ∈ Region.ready md ops listed, wpOpIn F n P ops Q i (fun a' w' => C w' ∧ wpAnyC F n P md ops C Q fuel (listed.setIfInBounds i true) a' w') a w

theorem wpAnyC_sound : ∀ (fuel : Nat) (listed : Array Bool) (a : Act) (w : World), wpAnyC F n P md ops C Q fuel listed a w → wpAnyIn F n P md ops Q fuel listed a w
  | 0, _, _, _, h => h
  | fuel + 1, listed, a, w, h => ⟨h.1, fun i hi => wpOpIn_mono (fun a' w' h' => wpAnyC_sound fuel _ a' w' h'.2) (h.2 i hi)⟩

theorem wpAnyC_done {listed : Array Bool} {a : Act} {w : World} (hr : Region.ready md ops listed = []) (h : Q .normal a w) : ∀ fuel, wpAnyC F n P md ops C Q fuel listed a w
  | 0 => ⟨hr, h⟩
  | _ + 1 => ⟨fun _ => h, by rw [hr]; simp⟩

/-- In every world of the class it yields v. -/
def YieldsC (P : Program) (ops : Array Oper) (C : World → Prop) (o : Oper) (v : Value) (a : Act) : Prop :=
  (Region.wanted o (yielded ops a.tmps) = true ∧ ∀ w, C w → (execOp a.eval o).run P w = .ok (.value v) w) ∨ (Region.wanted o (yielded ops a.tmps) = false ∧ v = undef)

theorem YieldsC.op {i : Nat} {o : Oper} {v : Value} {a : Act} (hF : ∀ f, F.fn f) (hnd : ∀ c, o.op ≠ .defer c) (hi : ops[i]? = some o) (hy : YieldsC P ops C o v a) {K : Act → World → Prop} {w : World} (hC : C w) (h : K (a.put o.dst v) w) : wpOpIn F n P ops Q i K a w := by
  unfold wpOpIn
  simp only [hi]
  rcases hy with ⟨hw, hv⟩ | ⟨hw, rfl⟩
  · rw [if_pos hw]
    exact ⟨fun f _ => hF f, by rw [Oper.semAt_eq _ _ _ hnd, hv w hC]; exact h⟩
  · rw [if_neg (by rw [hw]; simp)]
    exact ⟨fun f _ => hF f, h⟩

/-- What another operation does hangs not on what the one has yielded. -/
theorem opIn_put {j : Nat} {oi oj : Oper} {v : Value} (hF : ∀ f, F.fn f) (hnd : ∀ c, oj.op ≠ .defer c) (hj : ops[j]? = some oj) (hap : oi.apart ops oj = true) (hsj : ∀ cs b, oj.op ≠ .select cs b)
    (hQ : ∀ c a w, Q (.panic c) (a.put oi.dst v) w → Q (.panic c) a w) {K : Act → World → Prop} {a : Act} {w : World} (h : wpOpIn F n P ops Q j K (a.put oi.dst v) w) :
    wpOpIn F n P ops Q j (fun a' w' => (∃ ds u, a' = ({ a with defers := ds } : Act).put oj.dst u) ∧ K (a'.put oi.dst v) w') a w := by
  obtain ⟨h1, h2, _⟩ := Oper.apart_spec hap
  unfold wpOpIn at *
  simp only [hj] at *
  rw [wanted_put oj a oi.dst v h1] at h
  have here : ∀ u w', K ((a.put oi.dst v).put oj.dst u) w' → (∃ ds u', a.put oj.dst u = ({ a with defers := ds } : Act).put oj.dst u') ∧ K ((a.put oj.dst u).put oi.dst v) w' := fun u w' hk => ⟨⟨a.defers, u, rfl⟩, by rw [← Act.put_comm a v u h2]; exact hk⟩
  by_cases hw : Region.wanted oj (yielded ops a.tmps) = true
  · rw [if_pos hw] at h ⊢
    obtain ⟨_, h⟩ := h
    refine ⟨fun f _ => hF f, ?_⟩
    rw [Oper.semAt_eq _ _ _ hnd, execOp_put oj hsj a oi.dst v h1] at h
    rw [Oper.semAt_eq _ _ _ hnd]
    generalize (execOp a.eval oj).run P w = r at *
    cases r with
    | ok x w' =>
      cases x <;> simp only [Oper.uponIn] at h ⊢
      case value u => exact here u _ h
      case skip => exact here _ _ h
      case defer d =>
        refine ⟨⟨d :: a.defers, undef, rfl⟩, ?_⟩
        rw [← Act.put_comm _ v undef h2, ← Act.put_defers]
        exact h
      case enter f args =>
        refine ⟨h.1, CallsIn.mono h.2 fun e w'' he => ?_⟩
        cases e with
        | returned u => exact here u _ he
        | panicked c => exact hQ _ _ _ he
        | outgrown => exact he
      case row row args => exact ⟨h.1, RowsIn.mono h.2 fun u w'' he => here u _ he⟩
      case round l f tmps assign body =>
        refine ⟨h.1, RoundIn.mono h.2 fun e w'' he => ?_⟩
        cases e with
        | returned u => exact here u _ he
        | panicked c => exact hQ _ _ _ he
        | outgrown => exact he
    | halt x w' =>
      cases x <;> simp only [Oper.uponIn] at h ⊢
      case panic u => exact hQ _ _ _ h
  · rw [if_neg hw] at h ⊢
    exact ⟨fun f _ => hF f, here _ _ h.2⟩

theorem YieldsC.put {oi oj : Oper} {v u : Value} {a : Act} {ds : List Deferred} (hy : YieldsC P ops C oi v a) (hap : oi.apart ops oj = true) (hsi : ∀ cs b, oi.op ≠ .select cs b) : YieldsC P ops C oi v (({ a with defers := ds } : Act).put oj.dst u) := by
  obtain ⟨_, _, h3⟩ := Oper.apart_spec hap
  have e1 : execOp (({ a with defers := ds } : Act).put oj.dst u).eval oi = execOp a.eval oi := (execOp_put oi hsi { a with defers := ds } oj.dst u h3).trans rfl
  have e2 : Region.wanted oi (yielded ops (({ a with defers := ds } : Act).put oj.dst u).tmps) = Region.wanted oi (yielded ops a.tmps) := (wanted_put oi { a with defers := ds } oj.dst u h3).trans rfl
  unfold YieldsC
  rw [e1, e2]
  exact hy

theorem wpAnyC_first {i : Nat} {oi : Oper} {v : Value} (hF : ∀ f, F.fn f) (hnd : ∀ (j : Nat) (o : Oper), ops[j]? = some o → ∀ c, o.op ≠ .defer c) (hi : ops[i]? = some oi) (hsel : ∀ (j : Nat) (o : Oper) cs b, ops[j]? = some o → o.op ≠ .select cs b)
    (hQ : ∀ c a w, Q (.panic c) (a.put oi.dst v) w → Q (.panic c) a w) : ∀ (fuel : Nat) (listed : Array Bool) (a : Act) (w : World),
      (∀ j oj, ops[j]? = some oj → j ≠ i → listed.getD j true = false → (∀ e ∈ oj.after, Region.binds md e = true → e.on ≠ i) → oi.apart ops oj = true) →
      i ∈ Region.ready md ops listed → YieldsC P ops C oi v a → C w → wpAnyC F n P md ops C Q fuel (listed.setIfInBounds i true) (a.put oi.dst v) w → wpAnyC F n P md ops C Q (fuel + 1) listed a w := by
  intro fuel
  induction fuel with
  | zero =>
    intro listed a w _ hr hy hC H
    refine ⟨fun h => (by rw [h] at hr; cases hr), fun j hj => ?_⟩
    by_cases hji : j = i
    · subst hji; exact hy.op hF (hnd j oi hi) hi hC ⟨hC, H⟩
    · have := ready_mono hj hji
      rw [H.1] at this
      cases this
  | succ fuel ih =>
    intro listed a w hfree hr hy hC H
    refine ⟨fun h => (by rw [h] at hr; cases hr), fun j hj => ?_⟩
    by_cases hji : j = i
    · subst hji; exact hy.op hF (hnd j oi hi) hi hC ⟨hC, H⟩
    · obtain ⟨hjun, oj, hoj, hall⟩ := mem_ready.1 hj
      have hnot : ∀ e ∈ oj.after, Region.binds md e = true → e.on ≠ i := fun e he hb heq => by
        have h1 := hall e he hb
        have h0 := (mem_ready.1 hr).1
        rw [heq] at h1
        rcases Nat.lt_or_ge i listed.size with h' | h'
        · simp [h'] at h0 h1; rw [h0] at h1; cases h1
        · simp [Array.getElem?_eq_none h'] at h1
      have hap := hfree j oj hoj hji hjun hnot
      have h2 := opIn_put hF (hnd j oj hoj) hoj hap (fun cs b => hsel j oj cs b hoj) hQ (H.2 j (ready_mono hj hji))
      refine wpOpIn_mono (fun a' w' h3 => ?_) h2
      obtain ⟨⟨ds, u, rfl⟩, hC', h4⟩ := h3
      refine ⟨hC', ih (listed.setIfInBounds j true) _ w' (fun k ok hk hki hun hno => hfree k ok hk hki ?_ hno) (ready_mono hr (Ne.symm hji)) (hy.put hap (fun cs b => hsel i oi cs b hi)) hC' ?_⟩
      · by_cases hjk : j = k
        · subst hjk; exact hjun
        · rw [getD_set_ne true hjk] at hun; exact hun
      · rw [Array.setIfInBounds_comm _ _ hji]
        exact h4

/-- No operation of it is a defer. -/
def noDefer (ops : Array Oper) : Bool := ops.all fun o => match o.op with | .defer _ => false | _ => true
theorem noDefer_spec (h : noDefer ops = true) (j : Nat) (o : Oper) (hj : ops[j]? = some o) (c : Call) : o.op ≠ .defer c := fun e => by
  obtain ⟨hlt, hk⟩ := Array.getElem?_eq_some_iff.1 hj
  have := (Array.all_eq_true.1 h) j hlt
  rw [hk, e] at this
  cases this

theorem wpAnyC_take {i : Nat} {oi : Oper} {v : Value} {fuel : Nat} {listed : Array Bool} {a : Act} {w : World} (hF : ∀ f, F.fn f) (hnd : noDefer ops = true) (hi : ops[i]? = some oi) (hs : Region.noSelect ops = true) (hf : Region.free md ops listed i = true) (hr : (Region.ready md ops listed).contains i = true)
    (hQ : ∀ c a w, Q (.panic c) (a.put oi.dst v) w → Q (.panic c) a w) (hC : C w) (hy : YieldsC P ops C oi v a) (h : wpAnyC F n P md ops C Q fuel (listed.setIfInBounds i true) (a.put oi.dst v) w) : wpAnyC F n P md ops C Q (fuel + 1) listed a w :=
  wpAnyC_first hF (noDefer_spec hnd) hi (Region.noSelect_spec hs) hQ fuel listed a w (Region.free_spec hi hf) (by simpa using hr) hy hC h

/-- The same, with the temporary named. -/
theorem wpAnyC_takeD {i : Nat} {oi : Oper} (d : Option Tmp) {v : Value} {fuel : Nat} {listed : Array Bool} {a : Act} {w : World} (hF : ∀ f, F.fn f) (hnd : noDefer ops = true) (hi : ops[i]? = some oi) (hd : oi.dst = d) (hs : Region.noSelect ops = true) (hf : Region.free md ops listed i = true) (hr : (Region.ready md ops listed).contains i = true)
    (hQ : ∀ c a w, Q (.panic c) (a.put d v) w → Q (.panic c) a w) (hC : C w) (hy : YieldsC P ops C oi v a) (h : wpAnyC F n P md ops C Q fuel (listed.setIfInBounds i true) (a.put d v) w) : wpAnyC F n P md ops C Q (fuel + 1) listed a w := by
  subst hd
  exact wpAnyC_take hF hnd hi hs hf hr hQ hC hy h

/-- The operations that may come up, one by one. -/
def AllC (F : Fence) (n : Nat) (P : Program) (md : Region.Mode) (ops : Array Oper) (C : World → Prop) (Q : Exit → Act → World → Prop) (fuel : Nat) (listed : Array Bool) (a : Act) (w : World) (rs : List Nat) : Prop :=
  ∀ i ∈ rs, wpOpIn F n P ops Q i (fun a' w' => C w' ∧ wpAnyC F n P md ops C Q fuel (listed.setIfInBounds i true) a' w') a w
theorem AllC.nil {fuel : Nat} {listed : Array Bool} {a : Act} {w : World} : AllC F n P md ops C Q fuel listed a w [] := fun _ h => by cases h
theorem AllC.cons {fuel : Nat} {listed : Array Bool} {a : Act} {w : World} {i : Nat} {o : Oper} {rs : List Nat} (ho : ops[i]? = some o)
    (h : ∀ K' : Act → World → Prop, (∀ a w, C w → wpAnyC F n P md ops C Q fuel (listed.setIfInBounds i true) a w → K' a w) → if Region.wanted o (yielded ops a.tmps) = true then Oper.wpIn F n P o a w K' Q else (∀ f, o.about P w a.eval = some f → F.fn f) ∧ K' (a.put o.dst undef) w)
    (hs : AllC F n P md ops C Q fuel listed a w rs) : AllC F n P md ops C Q fuel listed a w (i :: rs) := fun j hj => by
  rcases List.mem_cons.1 hj with rfl | hj
  · exact wpOpIn_step ho (fun K' hK => h K' (fun a w hC hw => hK a w ⟨hC, hw⟩))
  · exact hs j hj
theorem wpAnyC_ready {rs : List Nat} {fuel : Nat} {listed : Array Bool} {a : Act} {w : World} (hr : Region.ready md ops listed = rs) (hne : rs ≠ []) (h : AllC F n P md ops C Q fuel listed a w rs) : wpAnyC F n P md ops C Q (fuel + 1) listed a w :=
  ⟨fun h0 => absurd (hr ▸ h0) hne, hr ▸ h⟩

end

end Go.Proofs.Ytpggcpnjcalfaab

/-
  An append within a region that draws its order, in or out of a round.
-/
namespace Go.Proofs.Ytpggcpnjcalfaab
open Go.RowKit
set_option linter.unusedVariables false

/-- A piece of code that goes on. -/
theorem wpIn_normal {F : Fence} {n : Nat} {P : Program} {c : Code} {Q : Exit → Act → World → Prop} {a : Act} {w : World} (h : c.wpIn F n P (fun e a w => e = .normal ∧ Q .normal a w) a w) : c.wpIn F n P Q a w :=
  Code.wpIn_mono (fun e a w h => by obtain ⟨rfl, h⟩ := h; exact h) h

theorem stepAny_append {P : Program} (w : World) {F : Fence} (hF : ∀ f, F.fn f) {o : Oper} {ops : Array Oper} {a : Act} {K : Act → World → Prop} {Q : Exit → Act → World → Prop} (hgd : o.guard = none) (s x : Operand) (t : TypeId)
    (ho : o.op = .call { callee := .builtin .append, args := #[s, x], argTypes := #[t, t] }) (base : Nat) (e : TypeId) (i : TypeInfo) (z : Value) (size bytes : Nat) (ht : P.underlying t = some (.slice e)) (hi : P.info? e = some i) (hz : i.zero = some z)
    (hsize : i.size = size) (hby : i.bytes = bytes) (hzs : z.cells.size = size) (hsz : 0 < size) (v : Value) (n : Nat) (xs : List Value) (hs : a.eval s = v) (hown : w.ownsRow base e size v n xs)
    (ad : Addr) (m c : Nat) (news : List Value) (hx : a.eval x = .slice (some ad) m c) (hl : news.length = m * size) (hnews : ∀ j u, news[j]? = some u → w.cell? (ad.add j) = some u) (h1 : ∀ u ∈ news, u.oneCell' = true)
    (hm : 0 < m) (h63 : n + m ≤ maxLen) (hbytes : (n + m) * bytes ≤ 140737488355328) (hbase : base ≤ w.heap.size)
    (h : ∀ g cap w', w'.ownsRow base e size (.slice (some ⟨g, 0, none⟩) (n + m) cap) (n + m) (xs ++ news) → w.grownBy w' v.ownBlock → K (a.put o.dst (.slice (some ⟨g, 0, none⟩) (n + m) cap)) w') :
    if Region.wanted o (yielded ops a.tmps) = true then Oper.wpIn F 0 P o a w K Q else (∀ f, o.about P w a.eval = some f → F.fn f) ∧ K (a.put o.dst undef) w := by
  obtain ⟨v', w', hr, h2, h3, _⟩ := run_append_own (P := P) w base t o.type e i z size bytes ht hi hz hsize hby hzs hsz v n xs hown ad m c news hl hnews h1 h63 hbytes hbase
  obtain ⟨g, cap', rfl⟩ : ∃ g cap', v' = .slice (some ⟨g, 0, none⟩) (n + m) cap' := by
    rcases h2.2 with ⟨_, h0⟩ | ⟨g, cap', cur, e', _⟩
    · omega
    · exact ⟨g, cap', e'⟩
  rw [if_pos (by simp [Region.wanted, hgd])]
  refine ⟨fun f _ => hF f, ?_⟩
  rw [Oper.semAt_eq _ _ _ (fun c hc => by rw [ho] at hc; cases hc)]
  unfold execOp
  simp only [ho, resolve, invoke, builtin, Sem.run_bind, Sem.run_pure, Result.andThen_ok, List.map_toArray, List.map_cons, List.map_nil, hs, hx, hr]
  exact h g cap' w' h2 h3

end Go.Proofs.Ytpggcpnjcalfaab

/-
  What textEnd of the words package returns: where the first byte 0 lies, or that there is none.
-/
namespace Go.Proofs.Ytpggcpnjcalfaab
open Go.RowKit
set_option maxRecDepth 10000

set_option maxHeartbeats 1000000 in
theorem textEnd_none (a : Option Addr) (n cap : Nat) (zs : List Int) (w : World) (ha : View .u32 w a zs) (hl : zs.length = n) (hw : Within 4294967296 zs) (hn : 4 * n ≤ 281474976710656) (h : ∀ i, i < 4 * n → nth (joinL zs) i ≠ 0) :
    Calls Try.prog 133 #[.slice a n cap] w fun e w' => e = .returned (.tuple #[.int .i64 0, .int .i64 0, .bool false]) ∧ w = w' := by
  have HL : Hid (zs.length = n) := hl
  clear hl
  have HB : Hid (∀ k p : Nat, k < n → p < 4 → byt (nth zs k) p ≠ 0) := fun k p hk hp => by
    have := h (4 * k + p) (by omega)
    rw [joinL_getD _ _ (by rw [HL.out]; omega), show (4 * k + p) / 4 = k by omega, show (4 * k + p) % 4 = p by omega] at this
    exact this
  clear h
  go_enter Try.func133, Try.ntmps133
  go_wp2
  go_step3
  go_wp2
  go_step3
  go_wp2
  go_loop [2, 3, 4, 10] (fun r s f i => ∃ k : Nat, k ≤ n ∧ i = .int .i64 k ∧ r = .int .i64 0 ∧ s = .int .i64 0 ∧ f = .bool false) (fun _ _ _ i => n - (intOf i).toNat)
  case atStart => exact ⟨0, Nat.zero_le _, rfl, rfl, rfl, rfl⟩
  case round =>
    obtain ⟨k, hk, rfl, rfl, rfl, rfl⟩ := hrel
    by_cases hlt : k < n
    · obtain ⟨b, off, rfl, _, hc⟩ := ha k (by rw [HL.out]; exact hlt)
      have hx := hw.at (k := k) (by rw [HL.out]; exact hlt)
      have HX : Hid (∀ p : Nat, p < 4 → byt (nth zs k) p ≠ 0) := fun p hp => HB.out k p hlt hp
      generalize nth zs k = x at hc hx HX
      have hx0 := hx.1
      have hx1 := hx.2
      clear hx ha
      go_wp2
      go_loop [2, 3, 4, 15] (fun r s f i => ∃ p : Nat, p ≤ 4 ∧ i = .int .i64 p ∧ r = .int .i64 0 ∧ s = .int .i64 0 ∧ f = .bool false) (fun _ _ _ i => 4 - (intOf i).toNat)
      case atStart => exact ⟨0, Nat.zero_le _, rfl, rfl, rfl, rfl⟩
      case round =>
        obtain ⟨p, hp, rfl, rfl, rfl, rfl⟩ := hrel
        by_cases hplt : p < 4
        · have hne : (byt x p == 0) = false := by simp; exact HX.out p hplt
          have hA := fun wx => byteAt_any x (p : Int) wx hx0 hx1 (by omega) (by omega)
          rw [Int.toNat_natCast] at hA
          generalize byt x p = y at hne hA
          go_wp2_with (go_at_call 48; refine (hA _).mono ?_; rintro e w' ⟨rfl, rfl⟩)
          go_round
          case rel => exact ⟨p + 1, by omega, by go_num, rfl, rfl, rfl⟩
          case measure => simp [intOf]; omega
        · go_wp2
          go_round
          case rel => exact ⟨k + 1, by omega, by go_num, rfl, rfl, rfl⟩
          case measure => simp [intOf]; omega
    · go_wp2
      try rw [Exit.noGoto_ret]
      go_ret3
      exact ⟨rfl, rfl⟩

set_option maxHeartbeats 1000000 in
theorem textEnd_at (a : Option Addr) (n cap : Nat) (zs : List Int) (w : World) (L P : Nat) (ha : View .u32 w a zs) (hl : zs.length = n) (hw : Within 4294967296 zs) (hn : 4 * n ≤ 281474976710656)
    (hL : L < n) (hP : P < 4) (h : ∀ i, i < 4 * L + P → nth (joinL zs) i ≠ 0) (h0 : nth (joinL zs) (4 * L + P) = 0) :
    Calls Try.prog 133 #[.slice a n cap] w fun e w' => e = .returned (.tuple #[.int .i64 L, .int .i64 P, .bool true]) ∧ w = w' := by
  have HL : Hid (zs.length = n) := hl
  clear hl
  have HB : Hid (∀ k p : Nat, 4 * k + p < 4 * L + P → p < 4 → byt (nth zs k) p ≠ 0) := fun k p hk hp => by
    have := h (4 * k + p) hk
    rw [joinL_getD _ _ (by rw [HL.out]; omega), show (4 * k + p) / 4 = k by omega, show (4 * k + p) % 4 = p by omega] at this
    exact this
  have H0 : Hid (byt (nth zs L) P = 0) := by
    rw [joinL_getD _ _ (by rw [HL.out]; omega), show (4 * L + P) / 4 = L by omega, show (4 * L + P) % 4 = P by omega] at h0
    exact h0
  clear h h0
  go_enter Try.func133, Try.ntmps133
  go_wp2
  go_step3
  go_wp2
  go_step3
  go_wp2
  go_loop [2, 3, 4, 10] (fun r s f i => ∃ k : Nat, k ≤ L ∧ i = .int .i64 k ∧ r = .int .i64 0 ∧ s = .int .i64 0 ∧ f = .bool false) (fun _ _ _ i => n - (intOf i).toNat)
  case atStart => exact ⟨0, Nat.zero_le _, rfl, rfl, rfl, rfl⟩
  case round =>
    obtain ⟨k, hk, rfl, rfl, rfl, rfl⟩ := hrel
    have hlt : k < n := by omega
    obtain ⟨b, off, rfl, _, hc⟩ := ha k (by rw [HL.out]; exact hlt)
    have hx := hw.at (k := k) (by rw [HL.out]; exact hlt)
    have HX : Hid (∀ p : Nat, 4 * k + p < 4 * L + P → p < 4 → byt (nth zs k) p ≠ 0) := fun p hp h4 => HB.out k p hp h4
    have HX0 : Hid (k = L → byt (nth zs k) P = 0) := fun e => by rw [e]; exact H0.out
    generalize nth zs k = x at hc hx HX HX0
    have hx0 := hx.1
    have hx1 := hx.2
    clear hx ha
    go_wp2
    go_loop [2, 3, 4, 15] (fun r s f i => ∃ p : Nat, p ≤ 4 ∧ 4 * k + p ≤ 4 * L + P ∧ i = .int .i64 p ∧ r = .int .i64 0 ∧ s = .int .i64 0 ∧ f = .bool false) (fun _ _ _ i => 4 - (intOf i).toNat)
    case atStart => exact ⟨0, Nat.zero_le _, by omega, rfl, rfl, rfl, rfl⟩
    case round =>
      obtain ⟨p, hp, hpN, rfl, rfl, rfl, rfl⟩ := hrel
      by_cases hplt : p < 4
      · by_cases hlast : 4 * k + p < 4 * L + P
        · have hne : (byt x p == 0) = false := by simp; exact HX.out p hlast hplt
          have hA := fun wx => byteAt_any x (p : Int) wx hx0 hx1 (by omega) (by omega)
          rw [Int.toNat_natCast] at hA
          generalize byt x p = y at hne hA
          go_wp2_with (go_at_call 48; refine (hA _).mono ?_; rintro e w' ⟨rfl, rfl⟩)
          go_round
          case rel => exact ⟨p + 1, by omega, by omega, by go_num, rfl, rfl, rfl⟩
          case measure => simp [intOf]; omega
        · obtain rfl : k = L := by omega
          obtain rfl : p = P := by omega
          have hA := fun wx => byteAt_any x (p : Int) wx hx0 hx1 (by omega) (by omega)
          rw [Int.toNat_natCast, HX0.out rfl] at hA
          go_wp2_with (go_at_call 48; refine (hA _).mono ?_; rintro e w' ⟨rfl, rfl⟩)
          try rw [Exit.noGoto_ret]
          go_ret3
          exact ⟨rfl, rfl⟩
      · go_wp2
        go_round
        case rel => exact ⟨k + 1, by omega, by go_num, rfl, rfl, rfl⟩
        case measure => simp [intOf]; omega

end Go.Proofs.Ytpggcpnjcalfaab

/-
  What Text of the words package returns, for every list of words: its error, or the text at their front and how many words it takes.
-/
namespace Go.Proofs.Ytpggcpnjcalfaab
open Go.RowKit
set_option maxRecDepth 10000

theorem text_none (a : Option Addr) (n cap : Nat) (zs : List Int) (w : World) (ha : View .u32 w a zs) (hl : zs.length = n) (hw : Within 4294967296 zs) (hn : 4 * n ≤ 281474976710656) (h : ∀ i, i < 4 * n → nth (joinL zs) i ≠ 0) :
    Calls Try.prog 129 #[.slice a n cap] w fun e w' => e = .returned (.tuple #[.string ⟨#[]⟩, .int .i64 0, .int .i64 11]) ∧ w = w' := by
  have hT := textEnd_none a n cap zs w ha hl hw hn h
  clear ha hl hw h
  go_enter Try.func129, Try.ntmps129
  go_wp2_with fail
  refine hT.mono ?_
  rintro e w' ⟨rfl, rfl⟩
  go_wp2
  go_ret3
  exact ⟨rfl, rfl⟩

set_option maxHeartbeats 1000000 in
theorem text_pad (a : Option Addr) (n cap : Nat) (zs : List Int) (w : World) (L P : Nat) (ha : View .u32 w a zs) (hl : zs.length = n) (hw : Within 4294967296 zs) (hn : 4 * n ≤ 281474976710656)
    (hL : L < n) (hP : P < 4) (h : ∀ i, i < 4 * L + P → nth (joinL zs) i ≠ 0) (h0 : nth (joinL zs) (4 * L + P) = 0) (hpad : nth zs L / 256 ^ P ≠ 0) :
    Calls Try.prog 129 #[.slice a n cap] w fun e w' => e = .returned (.tuple #[.string ⟨#[]⟩, .int .i64 0, .int .i64 12]) ∧ w = w' := by
  have hT := textEnd_at a n cap zs w L P ha hl hw hn hL hP h h0
  obtain ⟨b, off, rfl, _, hc⟩ := ha L (by omega)
  have hx := hw.at (k := L) (by omega)
  clear ha hl hw h h0
  generalize nth zs L = x at hc hx hpad
  have hx0 := hx.1
  have hx1 := hx.2
  have hLi : (L : Int) < (n : Int) := by omega
  rcases (show P = 0 ∨ P = 1 ∨ P = 2 ∨ P = 3 by omega) with rfl | rfl | rfl | rfl
  · have hne : (x == 0) = false := by simpa using hpad
    clear hx hpad
    go_enter Try.func129, Try.ntmps129
    go_wp2_with fail
    refine hT.mono ?_
    rintro e w' ⟨rfl, rfl⟩
    go_wp2
    go_ret3
    exact ⟨rfl, rfl⟩
  · have hne : (x / 256 == 0) = false := by simpa using hpad
    clear hx hpad
    go_enter Try.func129, Try.ntmps129
    go_wp2_with fail
    refine hT.mono ?_
    rintro e w' ⟨rfl, rfl⟩
    go_wp2
    go_ret3
    exact ⟨rfl, rfl⟩
  · have hne : (x / 65536 == 0) = false := by simpa using hpad
    clear hx hpad
    go_enter Try.func129, Try.ntmps129
    go_wp2_with fail
    refine hT.mono ?_
    rintro e w' ⟨rfl, rfl⟩
    go_wp2
    go_ret3
    exact ⟨rfl, rfl⟩
  · have hne : (x / 16777216 == 0) = false := by simpa using hpad
    clear hx hpad
    go_enter Try.func129, Try.ntmps129
    go_wp2_with fail
    refine hT.mono ?_
    rintro e w' ⟨rfl, rfl⟩
    go_wp2
    go_ret3
    exact ⟨rfl, rfl⟩

set_option maxHeartbeats 1000000 in
theorem text_ok (a : Option Addr) (n cap : Nat) (zs : List Int) (w : World) (L P : Nat) (ha : View .u32 w a zs) (hl : zs.length = n) (hw : Within 4294967296 zs) (hn : 4 * n ≤ 281474976710656) (hLb : 4 * (L + 1) ≤ 140737488351232) (hcap : n ≤ cap)
    (hL : L < n) (hP : P < 4) (h : ∀ i, i < 4 * L + P → nth (joinL zs) i ≠ 0) (h0 : nth (joinL zs) (4 * L + P) = 0) (hpad : nth zs L / 256 ^ P = 0) :
    Calls Try.prog 129 #[.slice a n cap] w fun e w' => e = .returned (.tuple #[.string (strOfNums ((joinL zs).take (4 * L + P))), .int .i64 ((L : Int) + 1), .int .i64 0]) ∧ Below w.heap.size w w' := by
  have hT := textEnd_at a n cap zs w L P ha hl hw hn hL hP h h0
  have hJ := join_any a (L + 1) cap (zs.take (L + 1)) w (ha.take _) (by rw [List.length_take]; omega) hLb (within_of_take hw)
  obtain ⟨b, off, rfl, _, hc⟩ := ha L (by omega)
  have hx := hw.at (k := L) (by omega)
  have e1 : joinL (zs.take (L + 1)) = (joinL zs).take (4 * (L + 1)) := joinL_take zs (L + 1)
  have hlen : (joinL zs).length = 4 * n := by rw [joinL_len, hl]
  rw [e1] at hJ
  clear ha hl hw h h0 e1
  generalize nth zs L = x at hc hx hpad
  generalize joinL zs = js at *
  have hx0 := hx.1
  have hx1 := hx.2
  have hLi : (L : Int) < (n : Int) := by omega
  have HJL : Hid (js.length = 4 * n) := hlen
  have HC : Hid (∀ (w' : World), w'.ownsRow w.heap.size 5 1 (.slice (some ⟨w.heap.size, 0, none⟩) (4 * (L + 1)) (4 * (L + 1))) (4 * (L + 1)) ((js.take (4 * (L + 1))).map (Value.int .u8)) →
      (convert 31 9 (.slice (some ⟨w.heap.size, 0, none⟩) (4 * L + P) (4 * (L + 1)))).run Try.prog w' = .ok (.string (strOfNums (js.take (4 * L + P)))) w') := fun w' hown => by
    refine run_convert_bytes_arg w' _ _ Try.underlying31 Try.underlying5 w.heap.size 0 (4 * L + P) (4 * (L + 1)) (js.take (4 * L + P)) (by rw [List.length_take, HJL.out]; omega) (fun i hi => ?_) _ Try.underlying9
    obtain ⟨b', off', e, _, hcell⟩ := View.ofRow hown (by rw [List.length_take, HJL.out]; omega) i (by rw [List.length_take, HJL.out]; omega)
    simp at e
    obtain ⟨rfl, rfl⟩ := e
    rw [hcell, nth_take _ _ _ (by omega)]
    have := nth_take js i (4 * L + P) hi
    rw [← this]; rfl
  clear hlen
  rcases (show P = 0 ∨ P = 1 ∨ P = 2 ∨ P = 3 by omega) with rfl | rfl | rfl | rfl
  · have hne : x = 0 := by simpa using hpad
    have hne' : (x == 0) = true := by simpa using hne
    clear hx hpad hne
    go_enter Try.func129, Try.ntmps129
    go_wp2_with fail
    refine hT.mono ?_
    rintro e w' ⟨rfl, rfl⟩
    go_wp2_with fail
    refine hJ.mono ?_
    rintro e w1 ⟨rfl, hown, hb⟩
    have hcv := HC.out w1 hown
    rw [Nat.add_zero] at hcv
    rw [Nat.add_zero]
    clear hown HC hT hJ
    go_wp2
    go_ret3
    exact ⟨rfl, hb⟩
  · have hne : x / 256 = 0 := by simpa using hpad
    have hne' : (x / 256 == 0) = true := by simpa using hne
    clear hx hpad hne
    go_enter Try.func129, Try.ntmps129
    go_wp2_with fail
    refine hT.mono ?_
    rintro e w' ⟨rfl, rfl⟩
    go_wp2_with fail
    refine hJ.mono ?_
    rintro e w1 ⟨rfl, hown, hb⟩
    have hcv := HC.out w1 hown
    clear hown HC hT hJ
    go_wp2
    go_ret3
    exact ⟨rfl, hb⟩
  · have hne : x / 65536 = 0 := by simpa using hpad
    have hne' : (x / 65536 == 0) = true := by simpa using hne
    clear hx hpad hne
    go_enter Try.func129, Try.ntmps129
    go_wp2_with fail
    refine hT.mono ?_
    rintro e w' ⟨rfl, rfl⟩
    go_wp2_with fail
    refine hJ.mono ?_
    rintro e w1 ⟨rfl, hown, hb⟩
    have hcv := HC.out w1 hown
    clear hown HC hT hJ
    go_wp2
    go_ret3
    exact ⟨rfl, hb⟩
  · have hne : x / 16777216 = 0 := by simpa using hpad
    have hne' : (x / 16777216 == 0) = true := by simpa using hne
    clear hx hpad hne
    go_enter Try.func129, Try.ntmps129
    go_wp2_with fail
    refine hT.mono ?_
    rintro e w' ⟨rfl, rfl⟩
    go_wp2_with fail
    refine hJ.mono ?_
    rintro e w1 ⟨rfl, hown, hb⟩
    have hcv := HC.out w1 hown
    clear hown HC hT hJ
    go_wp2
    go_ret3
    exact ⟨rfl, hb⟩

end Go.Proofs.Ytpggcpnjcalfaab

/-
  What Text of the words package returns, as one function of the words.
-/
namespace Go.Proofs.Ytpggcpnjcalfaab
open Go.RowKit

theorem text_any (a : Option Addr) (n cap : Nat) (zs : List Int) (w : World) (ha : View .u32 w a zs) (hl : zs.length = n) (hw : Within 4294967296 zs) (hn : 4 * n ≤ 140737488351232) (hcap : n ≤ cap) :
    Calls Try.prog 129 #[.slice a n cap] w fun e w' => e = .returned (.tuple #[.string (textI zs).1, .int .i64 (textI zs).2.1, .int .i64 (textI zs).2.2]) ∧ Below w.heap.size w w' := by
  have hj : (joinL zs).length = 4 * n := by rw [joinL_len, hl]
  by_cases h : (joinL zs).length ≤ zeroAt (joinL zs)
  · refine (text_none a n cap zs w ha hl hw (by omega) fun i hi => zeroAt_before _ _ (by omega) (by omega)).mono ?_
    rintro e w' ⟨rfl, rfl⟩
    refine ⟨?_, Below.refl _ _⟩
    rw [textI, if_pos h]
  · have hz : zeroAt (joinL zs) < (joinL zs).length := by omega
    obtain ⟨L, P, hP, hN⟩ : ∃ L P, P < 4 ∧ zeroAt (joinL zs) = 4 * L + P := ⟨zeroAt (joinL zs) / 4, zeroAt (joinL zs) % 4, by omega, by omega⟩
    have hL : L < n := by omega
    have hx := hw.at (k := L) (by omega)
    have hrest := rest_zero (nth zs L) P hP hx.1 hx.2
    have h0 : nth (joinL zs) (4 * L + P) = 0 := by rw [← hN]; exact zeroAt_at _ hz
    have hbyte : ∀ q, q < 4 → nth (joinL zs) (4 * L + q) = byt (nth zs L) q := fun q hq => by
      rw [joinL_getD _ _ (by rw [hl]; omega), show (4 * L + q) / 4 = L by omega, show (4 * L + q) % 4 = q by omega]
    have hbef : ∀ i, i < 4 * L + P → nth (joinL zs) i ≠ 0 := fun i hi => zeroAt_before _ _ (by omega) (by omega)
    have hpi := padBad_iff hN hP (by omega)
    by_cases hpad : nth zs L / 256 ^ P = 0
    · have hp : ¬ padBad (joinL zs) = true := fun h => by
        obtain ⟨q, h1, h2, h3⟩ := hpi.1 h
        rw [hbyte q h2] at h3
        exact h3 (hrest.1 hpad q (by omega) (by omega))
      refine (text_ok a n cap zs w L P ha hl hw (by omega) (by omega) hcap hL hP hbef h0 hpad).mono ?_
      rintro e w' ⟨rfl, hb⟩
      refine ⟨?_, hb⟩
      rw [textI, if_neg h, if_neg hp, hN, show (4 * L + P) / 4 = L by omega]
    · have hp : padBad (joinL zs) = true := by
        apply Classical.byContradiction
        intro hno
        apply hpad
        apply hrest.2
        intro q hq1 hq2
        by_cases e : q = P
        · subst e; rw [← hbyte q hq2]; exact h0
        · apply Classical.byContradiction
          intro hne
          exact hno (hpi.2 ⟨q, by omega, hq2, by rw [hbyte q hq2]; exact hne⟩)
      refine (text_pad a n cap zs w L P ha hl hw (by omega) hL hP hbef h0 hpad).mono ?_
      rintro e w' ⟨rfl, rfl⟩
      refine ⟨?_, Below.refl _ _⟩
      rw [textI, if_neg h, if_pos hp]

end Go.Proofs.Ytpggcpnjcalfaab

/-
  What slices.Clone of words returns: the words in new memory; nothing that was there has turned.
-/
namespace Go.Proofs.Ytpggcpnjcalfaab
open Go.RowKit
set_option maxRecDepth 10000

theorem Clone.info : (Try.prog.info? 22).map (fun i => (i.zero, i.size, i.bytes)) = some (some (.int .u32 0), 1, 4) := by kernel_rfl

theorem clone_nil (w : World) :
    Calls Try.prog 55 #[.slice none 0 0] w fun e w' => e = .returned (.slice none 0 0) ∧ w = w' := by
  have hn := fun w => Lib.run_eql_slice_nil (P := Try.prog) w 44 22 none 0 0 0 0 Try.underlying44
  go_enter Try.func55, Try.ntmps55
  go_wp2
  go_ret
  exact ⟨rfl, rfl⟩

set_option maxHeartbeats 400000 in
theorem clone_some (x : Addr) (n cap : Nat) (zs : List Int) (w : World) (hv : View .u32 w (some x) zs) (hl : zs.length = n) (hn : 4 * n ≤ 140737488351232) :
    Calls Try.prog 55 #[.slice (some x) n cap] w fun e w' => ∃ g cx, e = .returned (.slice (some ⟨g, 0, none⟩) n cx) ∧
      w'.ownsRow w.heap.size 22 1 (.slice (some ⟨g, 0, none⟩) n cx) n (zs.map (Value.int .u32)) ∧ Below w.heap.size w w' := by
  obtain ⟨i0, hi, hz0, hz1, hz2⟩ := info_parts Clone.info
  have hnn := fun w => Lib.run_eql_slice_nil (P := Try.prog) w 44 22 (some x) n cap 0 0 Try.underlying44
  simp only [Option.isNone_some] at hnn
  have hbs : ∀ w, (Instr.buildSlice 44 0 #[]).run Try.prog w = .ok (.slice (some ⟨w.heap.size, 0, none⟩) 0 0) (w.alloc (.cells #[] 22)) := fun w => by kernel_rfl
  have hown0 : (w.alloc (.cells #[] 22)).ownsRow w.heap.size 22 1 (.slice (some ⟨w.heap.size, 0, none⟩) 0 0) 0 [] := World.ownsRow_lit w #[] 0 (Nat.le_refl _) (by unfold maxLen; omega) rfl
  have hnews : ∀ j u, (zs.map (Value.int .u32))[j]? = some u → (w.alloc (.cells #[] 22)).cell? (x.add j) = some u := by
    intro j u hj
    rw [List.getElem?_map] at hj
    have hjl : j < zs.length := by
      rcases Nat.lt_or_ge j zs.length with h | h
      · exact h
      · rw [List.getElem?_eq_none h] at hj; simp at hj
    obtain ⟨b, off, e, hb, hc⟩ := hv j hjl
    simp at e
    subst e
    rw [Addr.add_lit, World.cell?_alloc_past _ _ _ hb, hc, ← hj, List.getElem?_eq_getElem hjl]
    simp [nth, List.getD, hjl]
  have HL : Hid (zs.length = n) := hl
  clear hl hv
  go_enter Try.func55, Try.ntmps55
  go_wp2_with (at_builtin; refine wpList_append_own _ rfl (.tmp 5) (.tmp 6) 44 rfl w.heap.size 22 i0 (.int .u32 0) 1 4 Try.underlying44 hi hz0 hz1 hz2 rfl (by decide) _ _ _ rfl hown0 x n cap (zs.map (Value.int .u32)) rfl (by rw [List.length_map, HL.out]; omega) hnews (ints_oneCell .u32 zs) (by unfold maxLen; omega) (by omega) (by simp) ?_)
  intro v' w1 hown1 hgrow1 hnil1
  have hb1 : Below w.heap.size w w1 := ((Below.refl _ w).alloc (Nat.le_refl _) _).grown hgrow1 (by simp) (fun k hk => by simp [Value.ownBlock] at hk; omega)
  have hex : ∃ g cx, v' = .slice (some ⟨g, 0, none⟩) n cx := by
    rcases hown1.2 with ⟨h1, _⟩ | ⟨g, cx, cur, h1, _⟩
    · exact absurd h1 hnil1
    · exact ⟨g, cx, h1⟩
  obtain ⟨g, cx, hv'⟩ := hex
  rw [hv'] at hown1 ⊢
  clear hnil1 hgrow1 hnews hown0
  go_wp2
  go_ret
  exact ⟨g, cx, rfl, hown1, hb1⟩

end Go.Proofs.Ytpggcpnjcalfaab

/-
  What Byte of the document's answer returns: the k-th byte of words, for every k of theirs.
-/
namespace Go.Proofs.Ytpggcpnjcalfaab
open Go.RowKit
set_option maxRecDepth 10000

end Go.Proofs.Ytpggcpnjcalfaab

/-
  What Text of the document's answer returns, for every list of words: its error, or the text at their front and how many words it takes.
-/
namespace Go.Proofs.Ytpggcpnjcalfaab
open Go.RowKit

theorem RefText.info : (Try.prog.info? 5).map (fun i => (i.zero, i.size, i.bytes)) = some (some (.int .u8 0), 1, 1) := by kernel_rfl

end Go.Proofs.Ytpggcpnjcalfaab

/-
  Text of the words package and of the document's answer are the same, whatever the words.
-/
namespace Go.Proofs.Ytpggcpnjcalfaab
open Go.RowKit
set_option maxRecDepth 10000

end Go.Proofs.Ytpggcpnjcalfaab

/-
  What a reader's calls At, Left and take do: what they answer, and where the reader stands then.
-/
namespace Go.Proofs.Ytpggcpnjcalfaab
open Go.RowKit
set_option maxRecDepth 10000

/-- A reader of the words zs, of which p were taken. -/
structure Rdr (W0 w : World) (gr ga n cw p : Nat) (zs : List Int) : Prop where
  rd : Rd 131 W0 w gr (.slice (some ⟨ga, 0, none⟩) n cw) p
  view : View .u32 W0 (some ⟨ga, 0, none⟩) zs
  apart : ga ≠ gr
  len : zs.length = n
  le : p ≤ n
  room : n ≤ cw
  small : 4 * n ≤ 140737488351232
  within : Within 4294967296 zs

theorem Rdr.words {W0 w : World} {gr ga n cw p : Nat} {zs : List Int} (h : Rdr W0 w gr ga n cw p zs) : View .u32 w (some ⟨ga, 0, none⟩) zs :=
  h.rd.view h.view (fun b off s e => by simp at e; have := h.apart; omega)

theorem Rdr.below {W0 w w' : World} {gr ga n cw p : Nat} {zs : List Int} (h : Rdr W0 w gr ga n cw p zs) (hb : Below w.heap.size w w') : Rdr W0 w' gr ga n cw p zs :=
  ⟨h.rd.below hb, h.view, h.apart, h.len, h.le, h.room, h.small, h.within⟩

theorem Rdr.set {W0 w : World} {gr ga n cw p : Nat} {zs : List Int} (h : Rdr W0 w gr ga n cw p zs) (q : Nat) (u : Int) (hu : u = (q : Int)) (hq : q ≤ n) : Rdr W0 (w.setCell ⟨gr, 1, none⟩ (.int .i64 u)) gr ga n cw q zs :=
  ⟨h.rd.set q u hu, h.view, h.apart, h.len, hq, h.room, h.small, h.within⟩

theorem Rdr.drew {W0 w : World} {gr ga n cw p : Nat} {zs : List Int} (h : Rdr W0 w gr ga n cw p zs) (q : Nat) : Rdr W0 (w.drewN q) gr ga n cw p zs := h.below (bel_drewN (Below.refl _ _) q)

theorem left_any {W0 w : World} {gr ga n cw p : Nat} {zs : List Int} (h : Rdr W0 w gr ga n cw p zs) :
    Calls Try.prog 93 #[.pointer (some ⟨gr, 0, none⟩)] w fun e w' => e = .returned (.int .i64 ((n : Int) - p)) ∧ ∃ q, w' = w.drewN q := by
  obtain ⟨c0, c1, f1⟩ := cell_of_two h.rd.box
  have hle := h.le
  have hsm := h.small
  clear h
  go_enter Try.func93, Try.ntmps93
  go_wp2
  go_quiet (fail)
  go_wp2
  go_ret
  exact ⟨rfl, _, rfl⟩

set_option maxHeartbeats 1000000 in
/-- A word is taken. -/
theorem take_word {W0 w : World} {gr ga n cw p : Nat} {zs : List Int} (m : Int) (h : Rdr W0 w gr ga n cw p zs) (hp : p < n) :
    Calls Try.prog 117 #[.pointer (some ⟨gr, 0, none⟩), .int .i64 0, .int .i64 m] w fun e w' => ∃ c, e = .returned (.tuple #[.slice (some ⟨ga, p, none⟩) 1 c, .string ⟨#[]⟩, .int .i64 0]) ∧ Rdr W0 w' gr ga n cw (p + 1) zs := by
  obtain ⟨c0, c1, f1⟩ := cell_of_two h.rd.box
  have hle := h.le
  have hsm := h.small
  have hrm := h.room
  have hne : ¬ cw = p := by omega
  have hp1 : (1 : Int) ≤ (n : Int) - (p : Int) := by omega
  have hp2 : ¬ ((n : Int) - (p : Int) < 1) := by omega
  have hcap : (1 : Int) ≤ ((cw - p : Nat) : Int) := by omega
  have hpn : (p : Int) ≤ (n : Int) := by omega
  have H : Hid (Rdr W0 w gr ga n cw p zs) := h
  clear h
  go_enter Try.func117, Try.ntmps117
  go_wp2
  go_quiet (fail)
  go_wp2
  go_ret3
  exact ⟨_, rfl, (H.out.drew _).set (p + 1) _ (by omega) hp⟩

set_option maxHeartbeats 1000000 in
/-- No word is left. -/
theorem take_end {W0 w : World} {gr ga n cw : Nat} {zs : List Int} (m : Int) (h : Rdr W0 w gr ga n cw n zs) :
    Calls Try.prog 117 #[.pointer (some ⟨gr, 0, none⟩), .int .i64 0, .int .i64 m] w fun e w' => e = .returned (.tuple #[.slice none 0 0, .string ⟨#[]⟩, .int .i64 14]) ∧ ∃ q, w' = w.drewN q := by
  obtain ⟨c0, c1, f1⟩ := cell_of_two h.rd.box
  have hsm := h.small
  have hrm := h.room
  obtain ⟨sa, hsa⟩ : ∃ sa, (if cw = n then some (⟨ga, 0, none⟩ : Addr) else some ⟨ga, n, none⟩) = sa := ⟨_, rfl⟩
  have hnn : n - n = 0 := Nat.sub_self n
  clear h
  go_enter Try.func117, Try.ntmps117
  go_wp2
  go_quiet (fail)
  go_wp2
  go_ret3
  exact ⟨rfl, _, rfl⟩

set_option maxHeartbeats 1000000 in
/-- Fewer than none are asked for. -/
theorem take_neg {W0 w : World} {gr ga n cw p : Nat} {zs : List Int} (m : Int) (h : Rdr W0 w gr ga n cw p zs) (hm : m < 0) :
    Calls Try.prog 117 #[.pointer (some ⟨gr, 0, none⟩), .int .i64 2, .int .i64 m] w fun e w' => e = .returned (.tuple #[.slice none 0 0, .string ⟨#[]⟩, .int .i64 2]) ∧ ∃ q, w' = w.drewN q := by
  obtain ⟨c0, c1, f1⟩ := cell_of_two h.rd.box
  have hle := h.le
  have hsm := h.small
  have hrm := h.room
  obtain ⟨sa, hsa⟩ : ∃ sa, (if cw = p then some (⟨ga, 0, none⟩ : Addr) else some ⟨ga, p, none⟩) = sa := ⟨_, rfl⟩
  have hpn : (p : Int) ≤ (n : Int) := by omega
  clear h
  go_enter Try.func117, Try.ntmps117
  go_wp2
  go_quiet (fail)
  go_wp2
  go_ret3
  exact ⟨rfl, _, rfl⟩

set_option maxHeartbeats 1000000 in
/-- More than are left are asked for. -/
theorem take_over {W0 w : World} {gr ga n cw p : Nat} {zs : List Int} (m : Int) (h : Rdr W0 w gr ga n cw p zs) (hm : (n : Int) - p < m) :
    Calls Try.prog 117 #[.pointer (some ⟨gr, 0, none⟩), .int .i64 2, .int .i64 m] w fun e w' => e = .returned (.tuple #[.slice none 0 0, .string ⟨#[]⟩, .int .i64 14]) ∧ ∃ q, w' = w.drewN q := by
  obtain ⟨c0, c1, f1⟩ := cell_of_two h.rd.box
  have hle := h.le
  have hsm := h.small
  have hrm := h.room
  obtain ⟨sa, hsa⟩ : ∃ sa, (if cw = p then some (⟨ga, 0, none⟩ : Addr) else some ⟨ga, p, none⟩) = sa := ⟨_, rfl⟩
  have hpn : (p : Int) ≤ (n : Int) := by omega
  have hm' : ((n - p : Nat) : Int) < m := by omega
  have hm0 : ¬ m < 0 := by omega
  clear h
  go_enter Try.func117, Try.ntmps117
  go_wp2
  go_quiet (fail)
  go_wp2
  go_ret3
  exact ⟨rfl, _, rfl⟩

set_option maxHeartbeats 1000000 in
/-- So many are taken. -/
theorem take_some {W0 w : World} {gr ga n cw p m : Nat} {zs : List Int} (h : Rdr W0 w gr ga n cw p zs) (hm : p + m ≤ n) :
    Calls Try.prog 117 #[.pointer (some ⟨gr, 0, none⟩), .int .i64 2, .int .i64 m] w fun e w' => ∃ sa c, e = .returned (.tuple #[.slice (some sa) m c, .string ⟨#[]⟩, .int .i64 0]) ∧ View .u32 w' (some sa) ((zs.drop p).take m) ∧ Rdr W0 w' gr ga n cw (p + m) zs ∧ w.grownBy w' (some gr) := by
  obtain ⟨c0, c1, f1⟩ := cell_of_two h.rd.box
  have hle := h.le
  have hsm := h.small
  have hrm := h.room
  have HLZ : Hid (zs.length = n) := h.len
  obtain ⟨sa, hsa, hsav⟩ : ∃ sa, (if cw = p then some (⟨ga, 0, none⟩ : Addr) else some ⟨ga, p, none⟩) = some sa ∧ Hid (∀ wx, View .u32 wx (some ⟨ga, 0, none⟩) zs → View .u32 wx (some sa) (zs.drop p)) := by
    by_cases e : cw = p
    · refine ⟨⟨ga, 0, none⟩, by rw [if_pos e], fun wx _ => ?_⟩
      rw [List.drop_of_length_le (by rw [HLZ.out]; omega)]
      exact view_nil
    · refine ⟨⟨ga, p, none⟩, by rw [if_neg e], fun wx hv => ?_⟩
      have := View.drop hv p
      rw [Nat.zero_add] at this
      exact this
  have hpn : (p : Int) ≤ (n : Int) := by omega
  have hm' : ¬ ((n - p : Nat) : Int) < (m : Int) := by omega
  have hm0 : ¬ (m : Int) < 0 := by omega
  have hmc : (m : Int) ≤ ((cw - p : Nat) : Int) := by omega
  have H : Hid (Rdr W0 w gr ga n cw p zs) := h
  clear h
  go_enter Try.func117, Try.ntmps117
  go_wp2
  go_quiet (fail)
  go_wp2
  go_ret3
  have hR := (H.out.drew nq).set (p + m) ((p : Int) + (m : Int)) (by omega) hm
  exact ⟨sa, _, rfl, (hsav.out _ hR.words).take m, hR, (show w.grownBy (w.drewN nq) (some gr) from ⟨rfl, rfl, rfl, Nat.le_refl _, fun _ _ _ => rfl⟩).trans (grown_setCell (w.drewN nq) gr 1 _)⟩

end Go.Proofs.Ytpggcpnjcalfaab

/-
  What a reader's calls Word, Text and Take answer, and where the reader stands then.
-/
namespace Go.Proofs.Ytpggcpnjcalfaab
open Go.RowKit
set_option maxRecDepth 10000

set_option maxHeartbeats 1000000 in
/-- A text is asked for, and there is an error. -/
theorem take_text_no {W0 w : World} {gr ga n cw p : Nat} {zs : List Int} (m : Int) (h : Rdr W0 w gr ga n cw p zs) (s : ByteArray) (k er : Int) (her : er ≠ 0)
    (hT : ∀ b cb w2, n - p ≤ cb → View .u32 w2 b (zs.drop p) → Calls Try.prog 129 #[.slice b (n - p : Nat) cb] w2 fun e w' => e = .returned (.tuple #[.string s, .int .i64 k, .int .i64 er]) ∧ Below w2.heap.size w2 w') :
    Calls Try.prog 117 #[.pointer (some ⟨gr, 0, none⟩), .int .i64 1, .int .i64 m] w fun e w' => e = .returned (.tuple #[.slice none 0 0, .string ⟨#[]⟩, .int .i64 er]) ∧ Below w.heap.size w w' := by
  obtain ⟨c0, c1, f1⟩ := cell_of_two h.rd.box
  have hle := h.le
  have hsm := h.small
  have hrm := h.room
  have HLZ : Hid (zs.length = n) := h.len
  obtain ⟨sa, hsa, hsav⟩ : ∃ sa, (if cw = p then some (⟨ga, 0, none⟩ : Addr) else some ⟨ga, p, none⟩) = some sa ∧ Hid (∀ wx, View .u32 wx (some ⟨ga, 0, none⟩) zs → View .u32 wx (some sa) (zs.drop p)) := by
    by_cases e : cw = p
    · refine ⟨⟨ga, 0, none⟩, by rw [if_pos e], fun wx _ => ?_⟩
      rw [List.drop_of_length_le (by rw [HLZ.out]; omega)]
      exact view_nil
    · refine ⟨⟨ga, p, none⟩, by rw [if_neg e], fun wx hv => ?_⟩
      have := View.drop hv p
      rw [Nat.zero_add] at this
      exact this
  have hpn : (p : Int) ≤ (n : Int) := by omega
  have he : (er == 0) = false := by simpa using her
  have H : Hid (Rdr W0 w gr ga n cw p zs) := h
  clear h her
  go_enter Try.func117, Try.ntmps117
  go_wp2
  go_quiet (fail)
  go_wp2_with fail
  refine (hT (some sa) (cw - p) (w.drewN nq) (by omega) (hsav.out _ (H.out.drew nq).words)).mono ?_
  rintro e w1 ⟨rfl, hb1⟩
  go_wp2
  go_ret3
  exact ⟨rfl, (bel_drewN (Below.refl _ w) nq).trans hb1⟩

set_option maxHeartbeats 1000000 in
/-- A text is taken. -/
theorem take_text_yes {W0 w : World} {gr ga n cw p : Nat} {zs : List Int} (m : Int) (h : Rdr W0 w gr ga n cw p zs) (s : ByteArray) (k : Nat) (hk : p + k ≤ n)
    (hT : ∀ b cb w2, n - p ≤ cb → View .u32 w2 b (zs.drop p) → Calls Try.prog 129 #[.slice b (n - p : Nat) cb] w2 fun e w' => e = .returned (.tuple #[.string s, .int .i64 k, .int .i64 0]) ∧ Below w2.heap.size w2 w') :
    Calls Try.prog 117 #[.pointer (some ⟨gr, 0, none⟩), .int .i64 1, .int .i64 m] w fun e w' => ∃ v, e = .returned (.tuple #[v, .string s, .int .i64 0]) ∧ Rdr W0 w' gr ga n cw (p + k) zs ∧ w.grownBy w' (some gr) := by
  obtain ⟨c0, c1, f1⟩ := cell_of_two h.rd.box
  have hle := h.le
  have hsm := h.small
  have hrm := h.room
  have HLZ : Hid (zs.length = n) := h.len
  obtain ⟨sa, hsa, hsav⟩ : ∃ sa, (if cw = p then some (⟨ga, 0, none⟩ : Addr) else some ⟨ga, p, none⟩) = some sa ∧ Hid (∀ wx, View .u32 wx (some ⟨ga, 0, none⟩) zs → View .u32 wx (some sa) (zs.drop p)) := by
    by_cases e : cw = p
    · refine ⟨⟨ga, 0, none⟩, by rw [if_pos e], fun wx _ => ?_⟩
      rw [List.drop_of_length_le (by rw [HLZ.out]; omega)]
      exact view_nil
    · refine ⟨⟨ga, p, none⟩, by rw [if_neg e], fun wx hv => ?_⟩
      have := View.drop hv p
      rw [Nat.zero_add] at this
      exact this
  have hpn : (p : Int) ≤ (n : Int) := by omega
  have hm' : ¬ ((n - p : Nat) : Int) < (k : Int) := by omega
  have hmc : (k : Int) ≤ ((cw - p : Nat) : Int) := by omega
  have H : Hid (Rdr W0 w gr ga n cw p zs) := h
  clear h
  go_enter Try.func117, Try.ntmps117
  go_wp2
  go_quiet (fail)
  go_wp2_with fail
  refine (hT (some sa) (cw - p) (w.drewN nq) (by omega) (hsav.out _ (H.out.drew nq).words)).mono ?_
  rintro e w1 ⟨rfl, hb1⟩
  have HR1 : Hid (Rdr W0 w1 gr ga n cw p zs) := (H.out.drew nq).below hb1
  obtain ⟨d0, d1, g1⟩ := cell_of_two HR1.out.rd.box
  have HB : Hid (Below w.heap.size w w1) := (bel_drewN (Below.refl _ w) nq).trans hb1
  clear hb1 hT
  go_wp2
  go_ret3
  refine ⟨_, rfl, HR1.out.set (p + k) _ (by omega) hk, ?_⟩
  have hb := HB.out
  exact World.grownBy.trans ⟨hb.os, hb.tape, hb.output, hb.size, fun i hi _ => hb.block i hi⟩ (grown_setCell w1 gr 1 _)

/-- Word, where one is left. -/
theorem word_some {W0 w : World} {gr ga n cw p : Nat} {zs : List Int} (h : Rdr W0 w gr ga n cw p zs) (hp : p < n) :
    Calls Try.prog 91 #[.pointer (some ⟨gr, 0, none⟩)] w fun e w' => e = .returned (.tuple #[.int .u32 (nth zs p), .int .i64 0]) ∧ Rdr W0 w' gr ga n cw (p + 1) zs := by
  have hT := take_word (m := 0) h hp
  have hlen := h.len
  clear h
  go_enter Try.func91, Try.ntmps91
  go_wp2_with fail
  refine hT.mono ?_
  rintro e w1 ⟨c, rfl, hR⟩
  obtain ⟨b, off, e1, _, hc⟩ := hR.words p (by rw [hlen]; exact hp)
  simp at e1
  obtain ⟨rfl, rfl⟩ := e1
  rw [Nat.zero_add] at hc
  clear hlen
  go_wp2
  go_ret2
  exact ⟨rfl, hR⟩

/-- Word, where none is left. -/
theorem word_none {W0 w : World} {gr ga n cw : Nat} {zs : List Int} (h : Rdr W0 w gr ga n cw n zs) :
    Calls Try.prog 91 #[.pointer (some ⟨gr, 0, none⟩)] w fun e w' => e = .returned (.tuple #[.int .u32 0, .int .i64 14]) ∧ Rdr W0 w' gr ga n cw n zs := by
  have hT := take_end (m := 0) h
  go_enter Try.func91, Try.ntmps91
  go_wp2_with fail
  refine hT.mono ?_
  rintro e w1 ⟨rfl, q, rfl⟩
  go_wp2
  go_ret2
  exact ⟨rfl, h.drew q⟩

/-- Text. -/
theorem rtext_any {W0 w : World} {gr ga n cw p : Nat} {zs : List Int} (h : Rdr W0 w gr ga n cw p zs) (s : ByteArray) (k er : Int) (hk0 : 0 ≤ k) (hk : k ≤ (n - p : Nat)) (hz : er ≠ 0 → s = ⟨#[]⟩ ∧ k = 0)
    (hT : ∀ b cb w2, n - p ≤ cb → View .u32 w2 b (zs.drop p) → Calls Try.prog 129 #[.slice b (n - p : Nat) cb] w2 fun e w' => e = .returned (.tuple #[.string s, .int .i64 k, .int .i64 er]) ∧ Below w2.heap.size w2 w') :
    Calls Try.prog 118 #[.pointer (some ⟨gr, 0, none⟩)] w fun e w' => e = .returned (.tuple #[.string s, .int .i64 er]) ∧ Rdr W0 w' gr ga n cw (p + k.toNat) zs := by
  have hle := h.le
  by_cases her : er = 0
  · subst her
    obtain ⟨kk, rfl⟩ := Int.eq_ofNat_of_zero_le hk0
    have hA := take_text_yes (m := 0) h s kk (by omega) hT
    rw [Int.toNat_natCast]
    clear hz hT h
    go_enter Try.func118, Try.ntmps118
    go_wp2_with fail
    refine hA.mono ?_
    rintro e w1 ⟨v, rfl, hR, _⟩
    go_wp2
    go_ret2
    exact ⟨rfl, hR⟩
  · obtain ⟨rfl, rfl⟩ := hz her
    have hA := take_text_no (m := 0) h ⟨#[]⟩ 0 er her hT
    have H : Hid (Rdr W0 w gr ga n cw p zs) := h
    clear hz hT h her
    go_enter Try.func118, Try.ntmps118
    go_wp2_with fail
    refine hA.mono ?_
    rintro e w1 ⟨rfl, hb⟩
    go_wp2
    go_ret2
    exact ⟨rfl, H.out.below hb⟩

end Go.Proofs.Ytpggcpnjcalfaab
