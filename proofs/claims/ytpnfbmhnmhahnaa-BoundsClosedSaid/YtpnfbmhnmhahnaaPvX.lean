/- Calls that come back, or panic: the open run with a second way out. -/
import Derived.Test.YtpnfbmhnmhahnaaPvF
import Derived.MapKept
/-! ## Part 19 -/
namespace Go.Proofs.Ytpnfbmhnmhahnaa.Pv
open Go Go.RowKit
/-- How a call ends: it comes back with v, or panics with v. -/
def endOf (b : Bool) (v : Value) : Ending := match b with
  | true => .returned v
  | false => .panicked [{ v, recovered := false }]
/-- A call that may turn the boxes, and comes back (true), or panics (false): what it tells, and the boxes. -/
def CX (P : Program) (k : FuncId) (ds : List D) (h : H) (Q : Bool → D → H → Prop) : Prop :=
  Callable P k ∧ ∀ (C : Cx) (w : World) (args : List Value), Sim C h w → RdL C w ds args →
    Calls P k args.toArray w fun e w' => ∃ b v C' d h', e = endOf b v ∧ Q b d h' ∧ Fw C w C' w' ∧ Sim C' h' w' ∧ Rd C' w' d v
section
variable {P : Program}
theorem CX.mono {k : FuncId} {ds : List D} {h : H} {Q R : Bool → D → H → Prop} (c : CX P k ds h Q) (hq : ∀ b d h', Q b d h' → R b d h') : CX P k ds h R :=
  ⟨c.1, fun C w args s r => (c.2 C w args s r).mono fun e w' ⟨b, v, C', d, h', h1, h2, h3, h4, h5⟩ => ⟨b, v, C', d, h', h1, hq b d h' h2, h3, h4, h5⟩⟩
theorem CW.cx {k : FuncId} {ds : List D} {h : H} {Q : D → H → Prop} {R : Bool → D → H → Prop} (c : CW P k ds h Q) (hq : ∀ d h', Q d h' → R true d h') : CX P k ds h R :=
  ⟨c.1, fun C w args s r => (c.2 C w args s r).mono fun e w' ⟨v, C', d, h', h1, h2, h3, h4, h5⟩ => ⟨true, v, C', d, h', h1, hq d h' h2, h3, h4, h5⟩⟩
/-- A call that never panics. -/
theorem CX.cw {k : FuncId} {ds : List D} {h : H} {Q : Bool → D → H → Prop} {R : D → H → Prop} (c : CX P k ds h Q) (hq : ∀ b d h', Q b d h' → b = true ∧ R d h') : CW P k ds h R :=
  ⟨c.1, fun C w args s r => (c.2 C w args s r).mono fun e w' ⟨b, v, C', d, h', h1, h2, h3, h4, h5⟩ => by
    obtain ⟨rfl, h6⟩ := hq b d h' h2
    exact ⟨v, C', d, h', h1, h6, h3, h4, h5⟩⟩
theorem CX.conv {k : FuncId} {ds : List D} {h : H} {Q R : Bool → D → H → Prop} (c : CX P k ds h Q) (hq : ∀ b d h', Q b d h' → ∃ d' h'', Cv d h' d' h'' ∧ R b d' h'') : CX P k ds h R :=
  ⟨c.1, fun C w args s r => (c.2 C w args s r).mono fun e w' ⟨b, v, C', d, h', h1, h2, h3, h4, h5⟩ => by
    obtain ⟨d', h'', k1, k2⟩ := hq b d h' h2
    obtain ⟨C2, f2, s2, r2⟩ := k1 C' w' v h4 h5
    exact ⟨b, v, C2, d', h'', h1, k2, h3.trans f2, s2, r2⟩⟩
theorem CX.weaken {k : FuncId} {ds : List D} {h : H} {Q R : Bool → D → H → Prop} (c : CX P k ds h Q) (hq : ∀ b d h', Q b d h' → ∃ d', Wk d d' ∧ R b d' h') : CX P k ds h R :=
  c.conv fun b d h' q => by
    obtain ⟨d', k1, k2⟩ := hq b d h' q
    exact ⟨d', h', fun C w v s r => ⟨C, Fw.refl _ _, s, k1 C w v r⟩, k2⟩
theorem CX.gc {k : FuncId} {ds : List D} {h : H} {Q R : Bool → D → H → Prop} (c : CX P k ds h Q) (hq : ∀ b d h', Q b d h' → idb h.length d = true ∧ (h'.take h.length).all (cellIdb h.length) = true ∧ R b d (h'.take h.length)) : CX P k ds h R := by
  refine ⟨c.1, fun C w args s r => (c.2 C w args s r).mono ?_⟩
  rintro e w' ⟨b, v, C', d, h', h1, h2, f, s', r'⟩
  obtain ⟨k1, k2, k3⟩ := hq b d h' h2
  exact ⟨b, v, C'.cut h.length, d, h'.take h.length, h1, k3, f.cut s.idb s.idl, s'.cut k2, r'.cut d k1⟩
/-- What is kept of the boxes: the first n. -/
theorem CX.cut {k : FuncId} {ds : List D} {h : H} {Q R : Bool → D → H → Prop} (n : Nat) (hn : h.length ≤ n) (c : CX P k ds h Q) (hq : ∀ b d h', Q b d h' → idb n d = true ∧ (h'.take n).all (cellIdb n) = true ∧ R b d (h'.take n)) : CX P k ds h R := by
  refine ⟨c.1, fun C w args s r => (c.2 C w args s r).mono ?_⟩
  rintro e w' ⟨b, v, C', d, h', h1, h2, f, s', r'⟩
  obtain ⟨k1, k2, k3⟩ := hq b d h' h2
  exact ⟨b, v, C'.cut n, d, h'.take n, h1, k3, f.cut (fun id b h => Nat.lt_of_lt_of_le (s.idb id b h) hn) (fun id u h => Nat.lt_of_lt_of_le (s.idl id u h) hn), s'.cut k2, r'.cut d k1⟩
end
structure XCallK (T : TP) (k : FuncId) (ds : List D) (h : H) (K : Bool → D → H → Prop) : Prop where
  out : ∃ Q, CX (T ()) k ds h Q ∧ ∀ b d h', Q b d h' → K b d h'
section
variable {T : TP}
theorem XCallK.of {k : FuncId} {ds : List D} {h : H} {K : Bool → D → H → Prop} (c : CallK T k ds h (K true)) : XCallK T k ds h K := by
  obtain ⟨Q, c1, hq⟩ := c.out
  exact ⟨fun b d h' => b = true ∧ Q d h', c1.cx fun d h' q => ⟨rfl, q⟩, fun b d h' ⟨hb, q⟩ => hb ▸ hq d h' q⟩
theorem XCallK.one {k : FuncId} {ds es : List D} {h : H} {K : Bool → D → H → Prop} {d : D} (c : CP (T ()) k es (· = d)) (hds : pureL ds = some es) (hd : pureD d = some d) (hk : K true d h) : XCallK T k ds h K := .of (.one c hds hd hk)
theorem XCallK.pure {k : FuncId} {ds es : List D} {h : H} {K : Bool → D → H → Prop} {Q : D → Prop} (c : CP (T ()) k es Q) (hds : pureL ds = some es) (hq : ∀ d, Q d → pureD d = some d ∧ K true d h) : XCallK T k ds h K := .of (.pure c hds hq)
theorem XCallK.mut {k : FuncId} {ds : List D} {h : H} {K : Bool → D → H → Prop} {Q : D → H → Prop} (c : CW (T ()) k ds h Q) (hk : ∀ d h', Q d h' → K true d h') : XCallK T k ds h K := .of (.mut c hk)
theorem XCallK.both {k : FuncId} {ds : List D} {h : H} {K Q : Bool → D → H → Prop} (c : CX (T ()) k ds h Q) (hk : ∀ b d h', Q b d h' → K b d h') : XCallK T k ds h K := ⟨Q, c, hk⟩
end
/-! ### A map of texts: a set -/
/-- The keys of a map of texts, one and all; what stands at each is an empty struct. -/
structure MapIs (keys : List ByteArray) (o : Obj) : Prop where
  out : ∃ es clock, o = .map es clock ∧ es.toList.map (fun e => (e.key, e.val)) = keys.map fun k => (Value.string k, Value.agg #[])
theorem bytes_beq (a b : ByteArray) : (a == b) = decide (a = b) := by
  have e : (a == b) = (a.data == b.data) := by cases a; cases b; rfl
  rw [e]
  by_cases h : a = b
  · subst h
    simp
  · rw [decide_eq_false h]
    exact beq_eq_false_iff_ne.2 fun h' => h (by cases a; cases b; simp only at h'; rw [h'])
theorem find_str {s : ByteArray} : ∀ (es : List MapEntry) (keys : List ByteArray) (i : Nat), es.map (fun e => (e.key, e.val)) = keys.map (fun k => (Value.string k, Value.agg #[])) →
    (s ∈ keys → ∃ j, Instr.findNow .string (.string s) es i = some (some (j, .agg #[]))) ∧ (s ∉ keys → Instr.findNow .string (.string s) es i = some none)
  | [], [], _, _ => ⟨fun h => by simp at h, fun _ => rfl⟩
  | [], _ :: _, _, h => by simp at h
  | _ :: _, [], _, h => by simp at h
  | e :: es, k :: keys, i, h => by
    simp only [List.map_cons, List.cons.injEq, Prod.mk.injEq] at h
    obtain ⟨⟨h1, h2⟩, h3⟩ := h
    obtain ⟨k1, k2⟩ := find_str (s := s) es keys (i + 1) h3
    have e0 : Instr.findNow .string (.string s) (e :: es) i = if s = k then some (some (i, .agg #[])) else Instr.findNow .string (.string s) es (i + 1) := by
      rw [Instr.findNow]
      simp only [h1, h2, Instr.sameNow, bytes_beq]
      by_cases hs : s = k
      · rw [decide_eq_true hs, if_pos hs]
      · rw [decide_eq_false hs, if_neg hs]
    refine ⟨fun hm => ?_, fun hm => ?_⟩
    · rw [e0]
      by_cases hs : s = k
      · exact ⟨i, if_pos hs⟩
      · rw [if_neg hs]
        exact k1 ((List.mem_cons.1 hm).resolve_left hs)
    · rw [e0, if_neg (fun hs => hm (by simp [hs]))]
      exact k2 fun hk => hm (List.mem_cons_of_mem _ hk)
/-- What stands at a key, first of all; nothing is zero. -/
def lkN : List (ByteArray × Int) → ByteArray → Int
  | [], _ => 0
  | p :: r, s => if s = p.1 then p.2 else lkN r s
def updN : List (ByteArray × Int) → ByteArray → Int → List (ByteArray × Int)
  | [], s, z => [(s, z)]
  | p :: r, s, z => if s = p.1 then (s, z) :: r else p :: updN r s z
theorem lkN_upd : ∀ (kv : List (ByteArray × Int)) (s : ByteArray) (z : Int) (x : ByteArray), lkN (updN kv s z) x = if x = s then z else lkN kv x
  | [], s, z, x => rfl
  | p :: r, s, z, x => by
    unfold updN
    by_cases h : s = p.1
    · rw [if_pos h]
      unfold lkN
      simp only
      by_cases hx : x = s
      · rw [if_pos hx, if_pos hx]
      · rw [if_neg hx, if_neg hx, if_neg (fun e => hx (e.trans h.symm))]
    · rw [if_neg h]
      unfold lkN
      rw [lkN_upd r s z x]
      by_cases hx : x = p.1
      · rw [if_pos hx, if_pos hx, if_neg (fun e => h (e.symm.trans hx))]
      · rw [if_neg hx, if_neg hx]
/-- A map of texts to numbers: f tells what stands at each text. -/
structure NMapIs (f : ByteArray → Int) (o : Obj) : Prop where
  out : ∃ (kv : List (ByteArray × Int)) (es : Array MapEntry) (clock : Nat), o = .map es clock ∧ es.toList.map (fun e => (e.key, e.val)) = kv.map (fun p => (Value.string p.1, Value.int .i64 p.2)) ∧ f = lkN kv
theorem find_num {s : ByteArray} : ∀ (es : List MapEntry) (kv : List (ByteArray × Int)) (i : Nat), es.map (fun e => (e.key, e.val)) = kv.map (fun p => (Value.string p.1, Value.int .i64 p.2)) →
    (∃ j, Instr.findNow .string (.string s) es i = some (some (i + j, .int .i64 (lkN kv s))) ∧ (∀ z, (es.modify j fun e => { e with key := .string s, val := .int .i64 z }).map (fun e => (e.key, e.val)) = (updN kv s z).map (fun p => (Value.string p.1, Value.int .i64 p.2))) ∧ ∃ e, es[j]? = some e ∧ e.key = .string s) ∨
    (Instr.findNow .string (.string s) es i = some none ∧ lkN kv s = 0 ∧ ∀ z, updN kv s z = kv ++ [(s, z)])
  | [], [], i, _ => .inr ⟨rfl, rfl, fun _ => rfl⟩
  | [], _ :: _, _, h => by simp at h
  | _ :: _, [], _, h => by simp at h
  | e :: es, p :: kv, i, h => by
    simp only [List.map_cons, List.cons.injEq, Prod.mk.injEq] at h
    obtain ⟨⟨h1, h2⟩, h3⟩ := h
    have e0 : Instr.findNow .string (.string s) (e :: es) i = if s = p.1 then some (some (i, .int .i64 p.2)) else Instr.findNow .string (.string s) es (i + 1) := by
      rw [Instr.findNow]
      simp only [h1, h2, Instr.sameNow, bytes_beq]
      by_cases hs : s = p.1
      · rw [decide_eq_true hs, if_pos hs]
      · rw [decide_eq_false hs, if_neg hs]
    by_cases hs : s = p.1
    · refine .inl ⟨0, ?_, fun z => ?_, e, rfl, by rw [h1, hs]⟩
      · rw [e0, if_pos hs, lkN, if_pos hs]
        rfl
      · rw [updN, if_pos hs]
        simp [h3]
    · rcases find_num (s := s) es kv (i + 1) h3 with ⟨j, k1, k2, e', k3, k4⟩ | ⟨k1, k2, k3⟩
      · refine .inl ⟨j + 1, ?_, fun z => ?_, e', by simpa using k3, k4⟩
        · rw [e0, if_neg hs, k1, lkN, if_neg hs]
          congr 3
          omega
        · rw [updN, if_neg hs]
          have := k2 z
          simp only [List.modify_succ_cons, List.map_cons, h1, h2, this]
      · refine .inr ⟨?_, ?_, fun z => ?_⟩
        · rw [e0, if_neg hs]
          exact k1
        · rw [lkN, if_neg hs]
          exact k2
        · rw [updN, if_neg hs, k3 z]
          rfl
section
variable {P : Program} {C : Cx} {h : H} {w : World}
theorem run_check_str {kt : TypeId} (hk : P.underlying kt = some .string) (e : Bool) (s : ByteArray) : (Instr.checkKey e 10000 kt (.string s)).run P w = .ok () w := by
  unfold Instr.checkKey
  simp [run_underlying hk]
theorem run_look {t kt et b : Nat} {s : ByteArray} {keys : List ByteArray} {i : TypeInfo} (ht : P.underlying t = some (.map kt et)) (hk : P.underlying kt = some .string) (hi : P.info? et = some i) (hz : i.zero = some (.agg #[])) {o : Obj} (hb : w.heap[b]? = some o) (hm : MapIs keys o) :
    (s ∈ keys → (Instr.lookup t (.map (some b)) (.string s) true).run P w = .ok (.tuple #[.agg #[], .bool true]) w) ∧ (s ∉ keys → (Instr.lookup t (.map (some b)) (.string s) true).run P w = .ok (.tuple #[.agg #[], .bool false]) w) := by
  obtain ⟨es, clock, rfl, he⟩ := hm.out
  obtain ⟨k1, k2⟩ := find_str (s := s) es.toList keys 0 he
  refine ⟨fun hs => ?_, fun hs => ?_⟩
  · obtain ⟨j, hj⟩ := k1 hs
    simp [Instr.lookup, run_underlying ht, MapKept.run_getObj_map hb, run_check_str hk, Instr.findKey, run_underlying hk, hj]
  · simp [Instr.lookup, run_underlying ht, MapKept.run_getObj_map hb, run_check_str hk, Instr.findKey, run_underlying hk, k2 hs, zeroValue, typeInfo, hi, hz]
theorem run_put {t kt et b : Nat} {s : ByteArray} {keys : List ByteArray} (ht : P.underlying t = some (.map kt et)) (hk : P.underlying kt = some .string) {o : Obj} (hb : w.heap[b]? = some o) (hm : MapIs keys o) (hs : s ∉ keys) :
    ∃ o', (Instr.mapUpdate t (.map (some b)) (.string s) (.agg #[])).run P w = .ok () { w with heap := w.heap.setIfInBounds b o' } ∧ MapIs (keys ++ [s]) o' := by
  obtain ⟨es, clock, rfl, he⟩ := hm.out
  obtain ⟨_, k2⟩ := find_str (s := s) es.toList keys 0 he
  refine ⟨.map (es.push { key := .string s, val := .agg #[], born := clock }) (clock + 1), ?_, ⟨_, _, rfl, ?_⟩⟩
  · simp [Instr.mapUpdate, run_underlying ht, MapKept.run_getObj_map hb, run_check_str hk, Instr.findKey, run_underlying hk, k2 hs, MapKept.run_setObj_map _ hb]
  · simp [he]
/-! A map of texts to numbers -/
theorem keyThatStays_same {s : ByteArray} : (Instr.keyThatStays (.string s) (.string s)).run P w = .ok (.string s) w := by
  have e : Instr.sameBits 10000 (.string s) (.string s) = true := by
    rw [Instr.sameBits, bytes_beq]
    exact decide_eq_true rfl
  unfold Instr.keyThatStays
  rw [if_pos e]
  rfl
theorem run_look_num {t kt et b : Nat} {s : ByteArray} {f : ByteArray → Int} {i : TypeInfo} (ht : P.underlying t = some (.map kt et)) (hk : P.underlying kt = some .string) (hi : P.info? et = some i) (hz : i.zero = some (.int .i64 0)) {o : Obj} (hb : w.heap[b]? = some o) (hm : NMapIs f o) :
    (Instr.lookup t (.map (some b)) (.string s) false).run P w = .ok (.int .i64 (f s)) w := by
  obtain ⟨kv, es, clock, rfl, he, hf⟩ := hm.out
  rw [hf]
  rcases find_num (s := s) es.toList kv 0 he with ⟨j, hj, _⟩ | ⟨hj, h0, _⟩
  · simp [Instr.lookup, run_underlying ht, MapKept.run_getObj_map hb, run_check_str hk, Instr.findKey, run_underlying hk, hj]
  · simp [Instr.lookup, run_underlying ht, MapKept.run_getObj_map hb, run_check_str hk, Instr.findKey, run_underlying hk, hj, h0, zeroValue, typeInfo, hi, hz]
theorem run_put_num {t kt et b : Nat} {s : ByteArray} {z : Int} {f : ByteArray → Int} (ht : P.underlying t = some (.map kt et)) (hk : P.underlying kt = some .string) {o : Obj} (hb : w.heap[b]? = some o) (hm : NMapIs f o) :
    ∃ o', (Instr.mapUpdate t (.map (some b)) (.string s) (.int .i64 z)).run P w = .ok () { w with heap := w.heap.setIfInBounds b o' } ∧ NMapIs (fun x => if x = s then z else f x) o' := by
  obtain ⟨kv, es, clock, rfl, he, hf⟩ := hm.out
  have hnew : (fun x => if x = s then z else f x) = lkN (updN kv s z) := by
    funext x
    rw [lkN_upd, hf]
  rw [hnew]
  rcases find_num (s := s) es.toList kv 0 he with ⟨j, hj, hk1, e, hk2, hk3⟩ | ⟨hj, h0, hk1⟩
  · have hkey : ((es[j]?).map (·.key)).getD (.string s) = .string s := by
      rw [← Array.getElem?_toList, hk2]
      simp [hk3]
    refine ⟨.map (es.modify j fun e => { e with key := .string s, val := .int .i64 z }) clock, ?_, ⟨updN kv s z, _, _, rfl, ?_, rfl⟩⟩
    · simp [Instr.mapUpdate, run_underlying ht, MapKept.run_getObj_map hb, run_check_str hk, Instr.findKey, run_underlying hk, hj, hkey, keyThatStays_same, MapKept.run_setObj_map _ hb]
    · have := hk1 z
      rw [← this]
      simp [Array.toList_modify]
  · refine ⟨.map (es.push { key := .string s, val := .int .i64 z, born := clock }) (clock + 1), ?_, ⟨updN kv s z, _, _, rfl, ?_, rfl⟩⟩
    · simp [Instr.mapUpdate, run_underlying ht, MapKept.run_getObj_map hb, run_check_str hk, Instr.findKey, run_underlying hk, hj, MapKept.run_setObj_map _ hb]
    · have := hk1 z
      rw [this]
      simp [he]
/-- A new block of its own, that P tells of. -/
theorem Sim.keep_new (s : Sim C h w) (o : Obj) {Q : Obj → Prop} (hq : Q o) :
    ∃ C', Fw C w C' (w.alloc o) ∧ Sim C' (h ++ [.keep w.heap.size Q]) (w.alloc o) := by
  have s1 := s.alloc o (fun _ => False)
  have f1 := Fw.alloc s o (fun _ => False)
  obtain ⟨fb, fl⟩ := s.fresh
  let C1 := C.grow w (fun _ => False)
  let C' : Cx := { C1 with bx := setf C.bx h.length w.heap.size }
  have hblk : ∀ id b, C'.blk id b → C.blk id b ∨ (id = h.length ∧ b = w.heap.size) := fun id b hb => by
    rcases hb with hb | hb
    · by_cases e : id = h.length
      · subst e
        have : some w.heap.size = some b := (setf_same _ _ _).symm.trans hb
        exact .inr ⟨rfl, (Option.some.inj this).symm⟩
      · exact .inl (.inl ((setf_other _ _ e).symm.trans hb))
    · exact .inl (.inr hb)
  have e1 : Ev C1 (w.alloc o) C' (w.alloc o) := ⟨rfl, rfl, rfl, Nat.le_refl _, fun _ _ h => h, fun _ _ _ => rfl, fun id b hb => by
    have : id ≠ h.length := fun e => by subst e; rw [show C1.bx h.length = none from fb] at hb; cases hb
    exact (setf_other _ _ this).trans hb, fun _ u h => ⟨u, h, .inl rfl⟩⟩
  have f : Fw C w C' (w.alloc o) := by
    have e0 := f1.toEv
    refine ⟨⟨rfl, rfl, rfl, e0.size, e0.sub, e0.cell, fun id b hb => e1.bx id b hb, fun id u hu => ⟨u, hu, .inl rfl⟩⟩, f1.frame, fun id b hb hlt => ?_, f1.new⟩
    rcases hblk id b hb with h' | ⟨_, rfl⟩
    · exact ⟨id, h'⟩
    · omega
  refine ⟨C', f, ⟨s1.S, fun id t' ds' e => ?_, fun id e sz n e' => ?_, fun id b hb => ?_, fun id b hb => ?_, fun id u hu => ?_, fun id id' b hb hb' => ?_, fun id b hb => ?_, fun id b Q' e => ?_⟩⟩
  · rcases ids_old e with ⟨_, e⟩ | ⟨_, e⟩
    · obtain ⟨b, vs', h2, h3, h4, h5, h6⟩ := s1.box id t' ds' e
      exact ⟨b, vs', e1.bx id b h2, h3, h4.mono e1, h5, h6⟩
    · cases e
  · rcases ids_old e' with ⟨_, e'⟩ | ⟨_, e'⟩
    · exact s1.log id e sz n e'
    · cases e'
  · rcases hblk id b hb with h' | ⟨_, rfl⟩
    · exact s1.lt id b h'
    · simp
  · by_cases e : id = h.length
    · simp [e]
    · have := s.idb id b ((setf_other _ _ e).symm.trans hb)
      simp; omega
  · have := s.idl id u hu
    simp; omega
  · rcases hblk id b hb with h2 | ⟨rfl, rfl⟩ <;> rcases hblk id' _ hb' with h3 | ⟨rfl, e⟩
    · exact s.inj id id' b h2 h3
    · subst e; exact absurd (s.lt id _ h2) (Nat.lt_irrefl _)
    · exact absurd (s.lt id' _ h3) (Nat.lt_irrefl _)
    · rfl
  · by_cases e : id = h.length
    · subst e; exact fl
    · exact s.one id b ((setf_other _ _ e).symm.trans hb)
  · rcases ids_old e with ⟨_, e⟩ | ⟨hid, e0⟩
    · obtain ⟨h2, h3, h4⟩ := s1.keep id b Q' e
      exact ⟨e1.bx id b h2, h3, h4⟩
    · subst hid
      clear e
      cases e0
      refine ⟨setf_same _ _ _, ⟨o, heap_alloc_new w _, hq⟩, fun o' hs => ?_⟩
      rcases hs with hs | ⟨_, hf⟩
      · exact Nat.lt_irrefl _ (s.S _ _ hs)
      · exact hf
theorem Sim.keep_set (s : Sim C h w) {id b : Nat} {Q Q' : Obj → Prop} (hid : h[id]? = some (.keep b Q)) {o' : Obj} (hq : Q' o') :
    Fw C w C { w with heap := w.heap.setIfInBounds b o' } ∧ Sim C (h.set id (.keep b Q')) { w with heap := w.heap.setIfInBounds b o' } := by
  obtain ⟨hbx, ⟨o, ho, _⟩, hS⟩ := s.keep id b Q hid
  have hlt : b < w.heap.size := s.lt id b (.inl hbx)
  have hidl : id < h.length := (List.getElem?_eq_some_iff.1 hid).1
  generalize hw : ({ w with heap := w.heap.setIfInBounds b o' } : World) = w'
  have other : ∀ k, k ≠ b → w'.heap[k]? = w.heap[k]? := fun k hk => by
    rw [← hw]
    have hk' : b ≠ k := fun e => hk e.symm
    simp [Array.getElem?_setIfInBounds, hk']
  have new : w'.heap[b]? = some o' := by rw [← hw]; simp [hlt]
  have hsz : w'.heap.size = w.heap.size := by rw [← hw]; simp
  have ev : Ev C w C w' := ⟨by rw [← hw], by rw [← hw], by rw [← hw], by omega, fun _ _ h => h, fun b0 o0 hs => World.cell?_of_block (w := w) (w' := w') (other b0 fun e => hS o0 (e ▸ hs)), fun _ _ h => h, fun _ u h => ⟨u, h, .inl rfl⟩⟩
  have f : Fw C w C w' := ⟨ev, fun b0 _ hn => other b0 fun e => hn id (.inl (e ▸ hbx)), fun id0 b0 hk _ => ⟨id0, hk⟩, fun _ _ h _ => .inl h⟩
  refine ⟨f, ⟨s.S.mono ev fun b0 o0 hs => by rw [hsz]; exact s.S b0 o0 hs, fun id0 t ds e => ?_, fun id0 e sz n e' => ?_, fun id0 b0 hb => by rw [hsz]; exact s.lt id0 b0 hb, fun id0 b0 hb => by rw [List.length_set]; exact s.idb id0 b0 hb, fun id0 u hu => by rw [List.length_set]; exact s.idl id0 u hu, s.inj, s.one, fun id0 b0 Q0 e => ?_⟩⟩
  · obtain ⟨hi, e⟩ := set_old e (fun h => by cases h)
    obtain ⟨b0, vs, h1, h2, h3, h4, h5⟩ := s.box id0 t ds e
    exact ⟨b0, vs, h1, (other b0 fun e => hi (s.inj id0 id b (.inl (e ▸ h1)) (.inl hbx))).trans h2, h3.mono ev, h4, h5⟩
  · obtain ⟨hi, e'⟩ := set_old e' (fun h => by cases h)
    obtain ⟨u, xs, h1, h2, h3⟩ := s.log id0 e sz n e'
    exact ⟨u, xs, h1, own_block h2 fun b0 hb0 => other b0 fun e => hi (s.inj id0 id b (.inr ⟨u, h1, e ▸ hb0⟩) (.inl hbx)), h3⟩
  · by_cases hi : id0 = id
    · subst hi
      rw [List.getElem?_set_self hidl] at e
      cases e
      exact ⟨hbx, ⟨o', new, hq⟩, hS⟩
    · rw [List.getElem?_set_ne (fun e => hi e.symm)] at e
      obtain ⟨h1, ⟨x, h2, h3⟩, h4⟩ := s.keep id0 b0 Q0 e
      exact ⟨h1, ⟨x, (other b0 fun e => hi (s.inj id0 id b (.inl (e ▸ h1)) (.inl hbx))).trans h2, h3⟩, h4⟩
end
structure MakeMapK (h : H) (K : D → H → Prop) : Prop where
  out : ∀ b, K (.raw (.map (some b))) (h ++ [.keep b (MapIs [])])
structure LookK (T : TP) (t : TypeId) (b : Nat) (s : ByteArray) (h : H) (K : D → Prop) : Prop where
  out : ∃ (id : Nat) (keys : List ByteArray) (kt et : TypeId) (i : TypeInfo), h[id]? = some (Cell.keep b (MapIs keys)) ∧ (T ()).underlying t = some (.map kt et) ∧ (T ()).underlying kt = some .string ∧ (T ()).info? et = some i ∧ i.zero = some (.agg #[]) ∧ (s ∈ keys → K (.raw (.tuple #[.agg #[], .bool true]))) ∧ (s ∉ keys → K (.raw (.tuple #[.agg #[], .bool false])))
structure PutK (T : TP) (t : TypeId) (b : Nat) (s : ByteArray) (h : H) (K : H → Prop) : Prop where
  out : ∃ (id : Nat) (keys : List ByteArray) (kt et : TypeId), h[id]? = some (Cell.keep b (MapIs keys)) ∧ (T ()).underlying t = some (.map kt et) ∧ (T ()).underlying kt = some .string ∧ s ∉ keys ∧ K (h.set id (.keep b (MapIs (keys ++ [s]))))
structure MakeNK (T : TP) (t : TypeId) (h : H) (K : D → H → Prop) : Prop where
  out : ∃ kt et, (T ()).underlying t = some (.map kt et) ∧ ∀ b f, f = (fun _ => (0 : Int)) → K (.raw (.map (some b))) (h ++ [.keep b (NMapIs f)])
structure LookNK (T : TP) (t : TypeId) (b : Nat) (s : ByteArray) (h : H) (K : D → Prop) : Prop where
  out : ∃ (id : Nat) (f : ByteArray → Int) (kt et : TypeId) (i : TypeInfo), h[id]? = some (Cell.keep b (NMapIs f)) ∧ (T ()).underlying t = some (.map kt et) ∧ (T ()).underlying kt = some .string ∧ (T ()).info? et = some i ∧ i.zero = some (.int .i64 0) ∧ K (.raw (.int .i64 (f s)))
structure PutNK (T : TP) (t : TypeId) (b : Nat) (s : ByteArray) (z : Int) (h : H) (K : H → Prop) : Prop where
  out : ∃ (id : Nat) (f : ByteArray → Int) (kt et : TypeId), h[id]? = some (Cell.keep b (NMapIs f)) ∧ (T ()).underlying t = some (.map kt et) ∧ (T ()).underlying kt = some .string ∧ ∀ g, g = (fun x => if x = s then z else f x) → K (h.set id (.keep b (NMapIs g)))
/-! ### An operation -/
def yop (T : TP) (own : Bool) (ρ : Operand → D) (o : Oper) (h : H) (R K : D → H → Prop) : Prop :=
  match o.op with
  | .panic x => match ρ x with
    | .ifc t d => R (.ifc t d) h
    | .raw (.iface t v) => R (.raw (.iface t v)) h
    | _ => False
  | .makeMap _ none => MakeMapK h K
  | .lookup t m k true => match ρ m, ρ k with
    | .raw (.map (some b)), .raw (.string s) => LookK T t b s h fun d => K d h
    | _, _ => False
  | .mapUpdate t m k v => match ρ m, ρ k, ρ v with
    | .raw (.map (some b)), .raw (.string s), .agg [] => PutK T t b s h fun h' => K .any h'
    | .raw (.map (some b)), .raw (.string s), .raw (.int .i64 z) => PutNK T t b s z h fun h' => K .any h'
    | _, _, _ => False
  | .makeMap t (some n) => match ρ n with
    | .raw (.int .i64 _) => MakeNK T t h K
    | _ => False
  | .lookup t m k false => match ρ m, ρ k with
    | .raw (.map (some b)), .raw (.string s) => LookNK T t b s h fun d => K d h
    | _, _ => False
  | .call c => match c.callee with
    | .value f => match fnD (ρ f) with
      | some (k, first, cap) => XCallK T k (first ++ c.args.toList.map ρ ++ cap) h fun b d h' => match b with
        | true => K d h'
        | false => R d h'
      | none => False
    | _ => wop T own ρ o h K
  | _ => wop T own ρ o h K
theorem call_args {C : Cx} {w : World} {ρ : Operand → D} {a : Act} (hr : Reads C w ρ a.eval) {f : Operand} {args : Array Operand} {k : FuncId} {first cap : List D} (hf : fnD (ρ f) = some (k, first, cap)) :
    ∃ x y, a.eval f = .func (.func k) x y ∧ RdL C w (first ++ args.toList.map ρ ++ cap) (x.toList ++ args.toList.map a.eval ++ y.toList) := by
  have hfr := hr f
  unfold fnD at hf
  split at hf
  · rename_i k' x y hv
    cases hf
    rw [hv] at hfr
    simp only [Rd] at hfr
    exact ⟨x, y, hfr, ((RdL.raws C w _).app (hr.map _)).app (RdL.raws C w _)⟩
  · rename_i k' x y hv
    cases hf
    rw [hv] at hfr
    simp only [Rd] at hfr
    obtain ⟨vs, us, e1, r1, r2⟩ := hfr
    exact ⟨_, _, e1, by simpa using (r1.app (hr.map _)).app r2⟩
  · cases hf
theorem call_run {P : Program} {a : Act} {w : World} {o : Oper} {f : Operand} {args : Array Operand} {ats : Array TypeId} (ho : o.op = .call { callee := .value f, args := args, argTypes := ats }) {k : FuncId} {x y : Array Value} (hev : a.eval f = .func (.func k) x y) (hcal : Callable P k) :
    (execOp a.eval o).run P w = .ok (.enter k ((x.toList ++ args.toList.map a.eval ++ y.toList).toArray)) w := by
  simp only [execOp, ho, Sem.run_bind, resolve, hev, Deferred.ofValue, Sem.run_pure, Result.andThen_ok, invoke]
  rw [callable_run hcal]
  congr 2
  apply Array.ext'
  simp
section
variable {T : TP}
theorem yop_sound {C : Cx} {h : H} {w : World} (s : Sim C h w) {ρ : Operand → D} {a : Act} (hr : Reads C w ρ a.eval) {o : Oper} {own : Bool} {R K : D → H → Prop} (e : yop T own ρ o h R K) {Rw : Act → World → Prop} {Q : Exit → Act → World → Prop}
    (hk : ∀ d h' v C' w', K d h' → Fw C w C' w' → Sim C' h' w' → Rd C' w' d v → Rw (a.put o.dst v) w')
    (hp : ∀ d h' v C' w', R d h' → Fw C w C' w' → Sim C' h' w' → Rd C' w' d v → Q (.panic [{ v, recovered := false }]) a w') : o.wp (T ()) a w Rw Q := by
  unfold yop at e
  split at e
  · rename_i x ho
    have hx := hr x
    have hrun : ∀ t v, a.eval x = .iface t v → (execOp a.eval o).run (T ()) w = .halt (.panic (.iface t v)) w := fun t v hv => by
      simp only [execOp, ho, Sem.run_bind, hv, Instr.panic]
      rfl
    split at e
    · rename_i t d hd
      rw [hd] at hx
      obtain ⟨u, hu, hru⟩ := hx
      unfold Oper.wp
      rw [hrun t u hu, Oper.upon_panic]
      exact hp _ _ _ C w e (Fw.refl _ _) s ⟨u, rfl, hru⟩
    · rename_i t v hd
      rw [hd] at hx
      simp only [Rd] at hx
      unfold Oper.wp
      rw [hrun t v hx, Oper.upon_panic]
      exact hp _ _ _ C w e (Fw.refl _ _) s rfl
    · exact e.elim
  · rename_i t ho
    obtain ⟨C', f, s'⟩ := s.keep_new (.map #[] 0) (Q := MapIs []) ⟨#[], 0, rfl, rfl⟩
    refine wp_of_value (w' := w.alloc (.map #[] 0)) (v := .map (some w.heap.size)) ?_ (hk _ _ _ C' _ (e.out w.heap.size) f s' rfl)
    simp only [execOp, ho]
    rfl
  · rename_i t m k ho
    split at e
    · rename_i b st hm hkk
      obtain ⟨id, keys, kt, et, i, h1, h2, h3, h4, h5, h6, h7⟩ := e.out
      have hmv := hr m
      have hkv := hr k
      rw [hm] at hmv
      rw [hkk] at hkv
      simp only [Rd] at hmv hkv
      obtain ⟨hbx, ⟨ob, ho1, ho2⟩, _⟩ := s.keep id b _ h1
      obtain ⟨hr1, hr2⟩ := run_look (w := w) (s := st) h2 h3 h4 h5 ho1 ho2
      by_cases hs : st ∈ keys
      · exact wp_of_value (w' := w) (v := .tuple #[.agg #[], .bool true]) (by simp [execOp, ho, hmv, hkv, hr1 hs]) (hk _ _ _ C w (h6 hs) (Fw.refl _ _) s rfl)
      · exact wp_of_value (w' := w) (v := .tuple #[.agg #[], .bool false]) (by simp [execOp, ho, hmv, hkv, hr2 hs]) (hk _ _ _ C w (h7 hs) (Fw.refl _ _) s rfl)
    · exact e.elim
  · rename_i t m k v ho
    split at e
    · rename_i b st hm hkk hvv
      obtain ⟨id, keys, kt, et, h1, h2, h3, h4, h5⟩ := e.out
      have hmv := hr m
      have hkv := hr k
      have hvr := hr v
      rw [hm] at hmv
      rw [hkk] at hkv
      rw [hvv] at hvr
      simp only [Rd] at hmv hkv
      obtain ⟨vs, hvs, hnil⟩ := hvr
      simp only [RdL] at hnil
      subst hnil
      obtain ⟨hbx, ⟨ob, ho1, ho2⟩, _⟩ := s.keep id b _ h1
      obtain ⟨o', hrun, hm'⟩ := run_put (w := w) (s := st) h2 h3 ho1 ho2 h4
      obtain ⟨f, s'⟩ := s.keep_set h1 hm'
      unfold Oper.wp
      have hex : (execOp a.eval o).run (T ()) w = .ok .skip { w with heap := w.heap.setIfInBounds b o' } := by
        simp only [execOp, ho, hmv, hkv, hvs, Sem.run_bind, hrun]
        rfl
      rw [hex, Oper.upon_skip]
      exact hk _ _ _ C _ h5 f s' trivial
    · rename_i b st z hm hkk hvv
      obtain ⟨id, g, kt, et, h1, h2, h3, h5⟩ := e.out
      have hmv := hr m
      have hkv := hr k
      have hvr := hr v
      rw [hm] at hmv
      rw [hkk] at hkv
      rw [hvv] at hvr
      simp only [Rd] at hmv hkv hvr
      obtain ⟨hbx, ⟨ob, ho1, ho2⟩, _⟩ := s.keep id b _ h1
      obtain ⟨o', hrun, hm'⟩ := run_put_num (w := w) (s := st) (z := z) h2 h3 ho1 ho2
      obtain ⟨f, s'⟩ := s.keep_set h1 hm'
      unfold Oper.wp
      have hex : (execOp a.eval o).run (T ()) w = .ok .skip { w with heap := w.heap.setIfInBounds b o' } := by
        simp only [execOp, ho, hmv, hkv, hvr, Sem.run_bind, hrun]
        rfl
      rw [hex, Oper.upon_skip]
      exact hk _ _ _ C _ (h5 _ rfl) f s' trivial
    · exact e.elim
  · rename_i t n ho
    split at e
    · rename_i z hn
      obtain ⟨kt, et, h2, h3⟩ := e.out
      have hnv := hr n
      rw [hn] at hnv
      simp only [Rd] at hnv
      obtain ⟨C', f, s'⟩ := s.keep_new (.map #[] 0) (Q := NMapIs fun _ => 0) ⟨[], #[], 0, rfl, rfl, rfl⟩
      refine wp_of_value (w' := w.alloc (.map #[] 0)) (v := .map (some w.heap.size)) ?_ (hk _ _ _ C' _ (h3 w.heap.size _ rfl) f s' rfl)
      simp only [execOp, ho, Option.map_some, hnv, Instr.makeMap, Sem.run_bind, run_underlying h2]
      rfl
    · exact e.elim
  · rename_i t m k ho
    split at e
    · rename_i b st hm hkk
      obtain ⟨id, g, kt, et, i, h1, h2, h3, h4, h5, h6⟩ := e.out
      have hmv := hr m
      have hkv := hr k
      rw [hm] at hmv
      rw [hkk] at hkv
      simp only [Rd] at hmv hkv
      obtain ⟨hbx, ⟨ob, ho1, ho2⟩, _⟩ := s.keep id b _ h1
      have hr1 := run_look_num (w := w) (s := st) h2 h3 h4 h5 ho1 ho2
      exact wp_of_value (w' := w) (v := .int .i64 (g st)) (by simp [execOp, ho, hmv, hkv, hr1]) (hk _ _ _ C w h6 (Fw.refl _ _) s rfl)
    · exact e.elim
  · rename_i c ho
    split at e
    · rename_i f hc
      split at e
      · rename_i k first cap hf
        obtain ⟨Q', ⟨hcal, hret⟩, hq⟩ := e.out
        obtain ⟨callee, args, argTypes⟩ := c
        simp only at hc
        subst hc
        obtain ⟨x, y, hev, hargs⟩ := call_args (args := args) hr hf
        unfold Oper.wp
        rw [call_run ho hev hcal, Oper.upon_enter]
        refine Calls.mono (hret C w _ s hargs) ?_
        rintro e' w' ⟨b, v, C', d, h', rfl, k0, k1, k2, k3⟩
        have := hq b d h' k0
        cases b with
        | true => exact hk d h' v C' w' this k1 k2 k3
        | false => exact hp d h' v C' w' this k1 k2 k3
      · exact e.elim
    · exact wop_sound s hr e hk
  · exact wop_sound s hr e hk
end
end Go.Proofs.Ytpnfbmhnmhahnaa.Pv
