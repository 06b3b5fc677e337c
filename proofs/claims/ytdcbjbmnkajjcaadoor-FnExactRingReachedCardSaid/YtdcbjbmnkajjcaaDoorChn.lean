/- One goroutine speaks with itself over a channel: the step of a send that has room, of a receive or a default in a select, as rules of the walk. -/
import Derived.Conc.LoneCalls
import Derived.Conc.LoneSelect
import Derived.Tactics
import Derived.Deep.MidRow
import Derived.Deep.AppendLies
namespace Go.Proofs.YtdcbjbmnkajjcaaDoor
open Go.RowKit Go.Conc

/-- The rest of a region, by the machine's steps. -/
def RegAt (P : Program) (ops : Array Oper) (Q : Exit → Act → World → Prop) (l : List Nat) (a : Act) (w : World) : Prop :=
  ∀ (b : Frame) (k : List Item) (cs : List Frame), ∃ e a' w', Q e a' w' ∧ Arrives P (lone (b.at a (.inRegion ops l :: k)) cs w) b k cs e a' w'
section
variable {P : Program} {ops : Array Oper} {Q : Exit → Act → World → Prop} {a : Act} {w : World}
theorem RegAt.of {l : List Nat} (h : wpOps P ops Q l a w) : RegAt P ops Q l a w := wp_ops l a w h
theorem RegAt.region {id : Nat} (h : RegAt P ops Q (List.range ops.size) a w) : (Code.region id ops false).wp P Q a w :=
  fun b k cs => let ⟨e, a', w', q, r⟩ := h b k cs; ⟨e, a', w', q, .of_steps (.one step_region) r⟩
theorem RegAt.one {i : Nat} {rest : List Nat} {o : Oper} {v : Value} {w' : World} (ho : ops[i]? = some o) (h : RegAt P ops Q rest (a.put o.dst v) w')
    (hs : ∀ (b : Frame) (k : List Item) (cs : List Frame), step P (solo (G (b.at a (.inRegion ops (i :: rest) :: k)) cs) w) = .next (solo (G ((b.at a (.inRegion ops (i :: rest) :: k)).finish v) cs) w')) : RegAt P ops Q (i :: rest) a w := by
  intro b k cs
  obtain ⟨e, a', w'', hq, harr⟩ := h b k cs
  refine ⟨e, a', w'', hq, .of_steps (.one ?_) harr⟩
  rw [lone_eq_solo, hs, Frame.finish_at, ho]
  rfl
theorem RegAt.value {i : Nat} {rest : List Nat} {o : Oper} {v : Value} {w' : World} (ho : ops[i]? = some o) (hw : Region.wanted o (yielded ops a.tmps) = true)
    (hr : (execOp a.eval o).run P w = .ok (.value v) w') (h : RegAt P ops Q rest (a.put o.dst v) w') : RegAt P ops Q (i :: rest) a w := by
  refine RegAt.one ho h fun b k cs => ?_
  rw [← lone_eq_solo]
  refine step_lone_go ?_
  have hg := stepG_op (P := P) (b := b) (k := k) (cs := cs) (w := w) (rest := rest) ho hw
  rw [hg]
  simp [stepG.apply, hr]
/-- The operation is a communication: whatever is listed. -/
theorem stepG_comm_any {i : Nat} {rest : List Nat} {o : Oper} {cases : Array CommCase} {blocking : Bool} {shape : CommShape} {w' : World} (ho : ops[i]? = some o) (hw : Region.wanted o (yielded ops a.tmps) = true)
    (hr : (execOp a.eval o).run P w = .ok (.comm cases blocking shape) w') (b : Frame) (k : List Item) (cs : List Frame) :
    ∃ es, stepG P true (G (b.at a (.inRegion ops (i :: rest) :: k)) cs) w = .comm (G (b.at a (.inRegion ops (i :: rest) :: k)) cs) cases blocking shape w' es := by
  rw [stepG_oper ho hw]
  by_cases hk : b.kind = .early
  · simp [stepG.apply, hr, G, Frame.at, hk, GStep.after]
  · have hk' : (b.kind == CallKind.early) = false := by simpa using hk
    simp [stepG.apply, hr, G, Frame.at, hk', GStep.after]
theorem RegAt.send {i : Nat} {rest : List Nat} {o : Oper} {c cap s r : Nat} {buf : Array Value} {v z' : Value} {tm : Bool} (ho : ops[i]? = some o) (hw : Region.wanted o (yielded ops a.tmps) = true)
    (hr : (execOp a.eval o).run P w = .ok (.comm #[scase c v z'] true .send) w) (hc : w.heap[c]? = some (.chan cap buf false s r tm)) (hroom : buf.size < cap)
    (h : RegAt P ops Q rest (a.put o.dst undef) (w.setChan c cap (buf.push v) false (s + 1) r tm)) : RegAt P ops Q (i :: rest) a w :=
  RegAt.one ho h fun b k cs => let ⟨_, hg⟩ := stepG_comm_any (rest := rest) ho hw hr b k cs; step_lone_send_room hg hc hroom
theorem RegAt.recv {i : Nat} {rest : List Nat} {o : Oper} {c cap s r : Nat} {buf : Array Value} {z : Value} {tm closed : Bool} (ho : ops[i]? = some o) (hw : Region.wanted o (yielded ops a.tmps) = true)
    (hr : (execOp a.eval o).run P w = .ok (.comm #[rcase c z] false .select) w) (hc : w.heap[c]? = some (.chan cap buf closed s r tm)) (hsome : 0 < buf.size)
    (h : RegAt P ops Q rest (a.put o.dst (.tuple #[goInt 0, .bool true, buf.getD 0 undef])) (w.setChan c cap (buf.extract 1 buf.size) closed s (r + 1) tm)) : RegAt P ops Q (i :: rest) a w :=
  RegAt.one ho h fun b k cs => let ⟨_, hg⟩ := stepG_comm_any (rest := rest) ho hw hr b k cs; step_lone_select_recv_buf hg hc hsome
theorem RegAt.default {i : Nat} {rest : List Nat} {o : Oper} {c cap s r : Nat} {z : Value} {tm : Bool} (ho : ops[i]? = some o) (hw : Region.wanted o (yielded ops a.tmps) = true)
    (hr : (execOp a.eval o).run P w = .ok (.comm #[rcase c z] false .select) w) (hc : w.heap[c]? = some (.chan cap #[] false s r tm))
    (h : RegAt P ops Q rest (a.put o.dst (.tuple #[goInt (-1), .bool false, z])) w) : RegAt P ops Q (i :: rest) a w :=
  RegAt.one ho h fun b k cs => let ⟨_, hg⟩ := stepG_comm_any (rest := rest) ho hw hr b k cs; step_lone_select_default hg hc

theorem run_move_op {o : Oper} {x : Operand} (ho : o.op = .move x) : (execOp a.eval o).run P w = .ok (.value (a.eval x)) w := by
  unfold execOp
  simp [ho]
theorem run_load_row {o : Oper} {ty : TypeId} {x : Operand} (ho : o.op = .load ty x) {b i : Nat} (hx : a.eval x = .pointer (some ⟨b, i, none⟩)) {cs : List Value} {d : TypeDesc} (hc : w.rangeAt b i cs)
    (hu : P.underlying ty = some d) (hd : d.isRow = true) (hi : (P.info? ty).map (·.size) = some cs.length) : (execOp a.eval o).run P w = .ok (.value (.agg cs.toArray)) w := by
  unfold execOp
  simp only [ho, hx, Instr.loadAt, Instr.sureAddr, Sem.run_bind, Sem.run_pure, Result.andThen_ok, run_loadVar_mid w b i ty cs d hc hu hd hi]
theorem run_send_op {o : Oper} {x y : Operand} (ho : o.op = .send x y) {c : Nat} {v : Value} (hx : a.eval x = .chan (some c)) (hy : a.eval y = v) :
    (execOp a.eval o).run P w = .ok (.comm #[scase c v (.tuple #[])] true .send) w := by
  unfold execOp
  simp [ho, hx, hy, scase]
theorem run_select_op {o : Oper} {x : Operand} {ty : TypeId} (ho : o.op = .select #[{ chan := x, send := none, elem := ty }] false) {c : Nat} {z : Value} (hx : a.eval x = .chan (some c)) (hz : (zeroValue ty).run P w = .ok z w) :
    (execOp a.eval o).run P w = .ok (.comm #[rcase c z] false .select) w := by
  generalize a.eval = ρ at hx ⊢
  unfold execOp
  rw [ho]
  simp [go_sem, hx, hz, rcase]
theorem wanted_none {o : Oper} (h : o.guard = none) (t : Array Value) : Region.wanted o (yielded ops t) = true := by
  unfold Region.wanted
  rw [h]
/-- A region that loads an array and sends it. -/
theorem wp_send_row {id : Nat} {o1 o2 o3 : Oper} {x1 x2 x3 x4 : Operand} {ty : TypeId} (h1 : o1.op = .move x1) (h2 : o2.op = .load ty x2) (h3 : o3.op = .send x3 x4)
    (g1 : o1.guard = none) (g2 : o2.guard = none) (g3 : o3.guard = none) {c b cap s r : Nat} {buf : Array Value} {tm : Bool} {cs : List Value} {d : TypeDesc}
    (e1 : a.eval x1 = .chan (some c)) (e2 : (a.put o1.dst (.chan (some c))).eval x2 = .pointer (some ⟨b, 0, none⟩))
    (hr : w.rangeAt b 0 cs) (hu : P.underlying ty = some d) (hd : d.isRow = true) (hi : (P.info? ty).map (·.size) = some cs.length)
    (e3 : ((a.put o1.dst (.chan (some c))).put o2.dst (.agg cs.toArray)).eval x3 = .chan (some c)) (e4 : ((a.put o1.dst (.chan (some c))).put o2.dst (.agg cs.toArray)).eval x4 = .agg cs.toArray)
    (hc : w.heap[c]? = some (.chan cap buf false s r tm)) (hroom : buf.size < cap)
    (h : wpList P #[o1, o2, o3] Q [] (((a.put o1.dst (.chan (some c))).put o2.dst (.agg cs.toArray)).put o3.dst undef) (w.setChan c cap (buf.push (.agg cs.toArray)) false (s + 1) r tm)) :
    (Code.region id #[o1, o2, o3] false).wp P Q a w := by
  refine RegAt.region ?_
  show RegAt P _ Q [0, 1, 2] a w
  have hm := run_move_op (P := P) (a := a) (w := w) h1
  rw [e1] at hm
  refine RegAt.value rfl (wanted_none g1 _) hm ?_
  refine RegAt.value rfl (wanted_none g2 _) (run_load_row h2 e2 hr hu hd hi) ?_
  refine RegAt.send rfl (wanted_none g3 _) (run_send_op h3 e3 e4) hc hroom ?_
  exact RegAt.of h
/-- A region that begins with a select of one receive and a default: something waits. -/
theorem wp_select_recv {id : Nat} {o1 o2 o3 : Oper} {x : Operand} {ty : TypeId} (h1 : o1.op = .select #[{ chan := x, send := none, elem := ty }] false) (g1 : o1.guard = none)
    {c cap s r : Nat} {buf : Array Value} {tm closed : Bool} {z : Value} (e1 : a.eval x = .chan (some c)) (hz : (zeroValue ty).run P w = .ok z w) (hc : w.heap[c]? = some (.chan cap buf closed s r tm)) {v : Value} {buf' : Array Value} (hsome : 0 < buf.size) (hv : buf.getD 0 undef = v) (hb : buf.extract 1 buf.size = buf')
    (h : wpList P #[o1, o2, o3] Q [o2, o3] (a.put o1.dst (.tuple #[goInt 0, .bool true, v])) (w.setChan c cap buf' closed s (r + 1) tm)) :
    (Code.region id #[o1, o2, o3] false).wp P Q a w := by
  subst hv hb
  refine RegAt.region ?_
  show RegAt P _ Q [0, 1, 2] a w
  refine RegAt.recv rfl (wanted_none g1 _) (run_select_op h1 e1 hz) hc hsome ?_
  refine RegAt.of ?_
  have hq := wpOps_eq_wpList (P := P) (ops := #[o1, o2, o3]) (Q := Q) [o2, o3] 1 (fun j => by match j with | 0 => rfl | 1 => rfl | j + 2 => simp; omega)
  have h2 : List.range' 1 [o2, o3].length = [1, 2] := rfl
  rw [h2] at hq
  rw [hq]
  exact h
/-- .. nothing waits. -/
theorem wp_select_default {id : Nat} {o1 o2 o3 : Oper} {x : Operand} {ty : TypeId} (h1 : o1.op = .select #[{ chan := x, send := none, elem := ty }] false) (g1 : o1.guard = none)
    {c cap s r : Nat} {tm : Bool} {z : Value} (e1 : a.eval x = .chan (some c)) (hz : (zeroValue ty).run P w = .ok z w) (hc : w.heap[c]? = some (.chan cap #[] false s r tm))
    (h : wpList P #[o1, o2, o3] Q [o2, o3] (a.put o1.dst (.tuple #[goInt (-1), .bool false, z])) w) :
    (Code.region id #[o1, o2, o3] false).wp P Q a w := by
  refine RegAt.region ?_
  show RegAt P _ Q [0, 1, 2] a w
  refine RegAt.default rfl (wanted_none g1 _) (run_select_op h1 e1 hz) hc ?_
  refine RegAt.of ?_
  have hq := wpOps_eq_wpList (P := P) (ops := #[o1, o2, o3]) (Q := Q) [o2, o3] 1 (fun j => by match j with | 0 => rfl | 1 => rfl | j + 2 => simp; omega)
  have h2 : List.range' 1 [o2, o3].length = [1, 2] := rfl
  rw [h2] at hq
  rw [hq]
  exact h
end
/-- The walk stands still here. -/
def Stop (p : Prop) : Prop := p
theorem wp_seq_stop {P : Program} {x y : Code} {Q : Exit → Act → World → Prop} {a : Act} {w : World} (h : x.wp P (Exit.then (fun a w => Stop (y.wp P Q a w)) Q) a w) : (Code.seq x y).wp P Q a w := wp_seq h
theorem stop_go {p : Prop} (h : p) : Stop p := h
open Lean Elab Tactic Meta in
/-- From 'K a w' to the code that comes next. -/
elab "go_next_" : tactic => withMainContext do
  let g ← getMainGoal
  let t := (← instantiateMVars (← g.getType)).consumeMData
  unless t.getAppFn.isFVar do throwError "go_next_: no continuation"
  for d in (← getLCtx).decls.toArray.filterMap id do
    if d.isImplementationDetail then continue
    let s ← saveState
    try
      let gs ← g.apply d.toExpr
      if gs.length == 1 && ((← instantiateMVars (← gs[0]!.getType)).consumeMData).isAppOf ``Code.wp then
        replaceMainGoal gs
        return
      s.restore
    catch _ => s.restore
  throwError "go_next_: nothing leads there"
theorem grown_setChan (w : World) (c cap : Nat) (buf : Array Value) (cl : Bool) (s r : Nat) (tm : Bool) : w.grownBy (w.setChan c cap buf cl s r tm) (some c) :=
  ⟨rfl, rfl, rfl, by simp [World.setChan], fun k _ hne => by
    simp only [World.setChan]
    rw [Array.getElem?_setIfInBounds_ne (fun e => hne (by rw [e]))]⟩
theorem rng_grown {w w' : World} {row : Option Nat} {b o : Nat} {cs : List Value} (h : w.rangeAt b o cs) (hg : w.grownBy w' row) (hb : b < w.heap.size) (hne : some b ≠ row) : w'.rangeAt b o cs := fun j v hv => by
  have := hg.block b hb hne
  exact (World.cell?_of_block (a := ⟨b, o + j, none⟩) this).trans (h j v hv)
/-- How many receives there were. -/
def rcvN (w : World) (c : Nat) : Nat := match w.heap[c]? with
  | some (.chan _ _ _ _ r _) => r
  | _ => 0
theorem rcv_at {w : World} {c cap s r : Nat} {buf : Array Value} {cl tm : Bool} (h : w.heap[c]? = some (.chan cap buf cl s r tm)) : rcvN w c = r := by
  unfold rcvN
  rw [h]
end Go.Proofs.YtdcbjbmnkajjcaaDoor
