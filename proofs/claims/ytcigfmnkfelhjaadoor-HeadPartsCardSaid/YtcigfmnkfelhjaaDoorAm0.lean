/- An abstract machine for the program's code: values and memory by name, deterministic, to be run by the kernel. Definitions. -/
import Derived.Calls
import Derived.Below
import Derived.Orders
import GoSem.Extern.Table
set_option linter.unusedVariables false
namespace Go.Proofs.YtcigfmnkfelhjaaDoor.Am
open Go
noncomputable section

/-- A digit. -/
inductive D4 where
  | a | b | c | d
/-- The digits of a number: in them what stands under it is looked up. -/
def pathF (fuel : Nat) : Nat → List D4 :=
  Nat.rec (motive := fun _ => Nat → List D4) (fun _ => [])
    (fun _ ih n => cond (Nat.beq n 0) [] (List.cons (cond (Nat.beq (Nat.mod (Nat.pred n) 4) 0) .a (cond (Nat.beq (Nat.mod (Nat.pred n) 4) 1) .b (cond (Nat.beq (Nat.mod (Nat.pred n) 4) 2) .c .d))) (ih (Nat.div (Nat.pred n) 4)))) fuel
def path (n : Nat) : List D4 := pathF n n
/-- A tree of what stands under each number. -/
inductive Tr (α : Type) where
  | lf
  | nd (v : Option α) (p q r s : Tr α)
def Tr.getP {α : Type} (l : List D4) : Tr α → Option α :=
  List.rec (motive := fun _ => Tr α → Option α)
    (fun t => Tr.rec (motive := fun _ => Option α) none (fun v _ _ _ _ _ _ _ _ => v) t)
    (fun x _ ih t => Tr.rec (motive := fun _ => Option α) none (fun _ p q r s _ _ _ _ => D4.rec (motive := fun _ => Option α) (ih p) (ih q) (ih r) (ih s) x) t) l
def Tr.get {α : Type} (t : Tr α) (n : Nat) : Option α := Tr.getP (path n) t
/-- Set, handing the new tree on. -/
def Tr.setPK {α R : Type} (v : α) (l : List D4) : Tr α → (Tr α → Option R) → Option R :=
  List.rec (motive := fun _ => Tr α → (Tr α → Option R) → Option R)
    (fun t k => Tr.rec (motive := fun _ => Option R) (k (.nd (some v) .lf .lf .lf .lf)) (fun _ p q r s _ _ _ _ => k (.nd (some v) p q r s)) t)
    (fun x _ ih t k => Tr.rec (motive := fun _ => Option R)
      (ih .lf fun t' => k (D4.rec (motive := fun _ => Tr α) (.nd none t' .lf .lf .lf) (.nd none .lf t' .lf .lf) (.nd none .lf .lf t' .lf) (.nd none .lf .lf .lf t') x))
      (fun u p q r s _ _ _ _ => D4.rec (motive := fun _ => Option R) (ih p fun t' => k (.nd u t' q r s)) (ih q fun t' => k (.nd u p t' r s)) (ih r fun t' => k (.nd u p q t' s)) (ih s fun t' => k (.nd u p q r t')) x) t) l
def Tr.setK {α R : Type} (_ : Nat) (t : Tr α) (n : Nat) (v : α) (k : Tr α → Option R) : Option R := Tr.setPK v (path n) t k

/-- A number, reckoned. -/
def fN {R : Type} (n : Nat) (k : Nat → R) : R :=
  match n with
  | 0 => k 0
  | .succ m => k (.succ m)
def fI {R : Type} (n : Int) (k : Int → R) : R :=
  match n with
  | .ofNat m => fN m fun m => k (.ofNat m)
  | .negSucc m => fN m fun m => k (.negSucc m)

/-- Values: places by name (a family of cells, a version of it, an offset). -/
inductive AV where
  | bool (b : Bool)
  | int (k : IntKind) (n : Int)
  | unk (k : IntKind)
  | str (l : List Nat)
  | nilptr
  | ptr (f v o : Nat)
  | nilsl
  | sl (f v o len esz : Nat) (lim : Option Nat)
  | nilmap
  | map (r : Nat)
  | func (f : FuncId) (first captured : List AV)
  | nilfunc
  | iface (t : TypeId) (v : AV)
  | niliface
  | agg (cs : List AV)
  | tuple (vs : List AV)

/-- What is no row of cells: a map's entries (key, value, born), or a string that a range runs over. -/
inductive MB where
  | ents (es : List (AV × AV × Nat))
  | iter (s : List Nat)
inductive AO where
  | cells (c : Tr AV) (n rdmin : Nat) (frz : Bool) (et : Option TypeId)
  | mp (es : MB) (clock : Nat)
  | dead

structure AH where
  tr : Tr AO
  next : Nat
  mark : Nat
  wlog : List Nat
  hid : List (Nat × Nat)

def inRanges : List (Nat × Nat) → Nat → Bool
  | [], _ => false
  | (a, b) :: r, n => cond (Nat.ble a n) (cond (Nat.blt n b) true (inRanges r n)) (inRanges r n)
def memN : List Nat → Nat → Bool
  | [], _ => false
  | a :: r, n => cond (Nat.beq a n) true (memN r n)

def AH.get (h : AH) (f : Nat) : Option AO :=
  match h with
  | ⟨tr, _, _, _, hid⟩ => cond (inRanges hid f) none (tr.get f)

/-- Write a family that is there. -/
def AH.putK {R : Type} (h : AH) (f : Nat) (o : AO) (k : AH → Option R) : Option R :=
  match h with
  | ⟨tr, next, mark, wlog, hid⟩ => tr.setK 40 f o fun tr' =>
      cond (Nat.blt f mark) (cond (memN wlog f) (k ⟨tr', next, mark, wlog, hid⟩) (k ⟨tr', next, mark, f :: wlog, hid⟩)) (k ⟨tr', next, mark, wlog, hid⟩)
/-- A new family. -/
def AH.newK {R : Type} (h : AH) (o : AO) (k : Nat → AH → Option R) : Option R :=
  match h with
  | ⟨tr, next, mark, wlog, hid⟩ => cond (inRanges hid next) none (tr.setK 40 next o fun tr' => fN (Nat.succ next) fun next' => k next ⟨tr', next', mark, wlog, hid⟩)

/-! ## Lists of cells -/
def setCellsK {R : Type} : List AV → Tr AV → Nat → (Tr AV → Option R) → Option R
  | [], c, _, k => k c
  | v :: vs, c, i, k => fN (Nat.succ i) fun i' => c.setK 40 i v fun c' => setCellsK vs c' i' k
/-- n cells from i on, at the head of acc reversed. -/
def readK {R : Type} (c : Tr AV) : Nat → Nat → (List AV → Option R) → Option R
  | 0, _, k => k []
  | n + 1, i, k => match c.get i with
    | none => none
    | some v => fN (Nat.succ i) fun i' => readK c n i' fun vs => k (v :: vs)

def loadK {R : Type} (h : AH) (f v o n : Nat) (k : List AV → Option R) : Option R :=
  match h.get f with
  | some (.cells c m rdmin _ _) => cond (Nat.ble rdmin v) (cond (Nat.ble v m) (cond (Nat.ble (Nat.add o n) v) (readK c n o k) none) none) none
  | _ => none
def oneC : AV → Bool
  | .agg _ => false
  | .tuple _ => false
  | _ => true
def allC : List AV → Bool
  | [] => true
  | v :: r => cond (oneC v) (allC r) false
def storeK {R : Type} (h : AH) (f v o : Nat) (vs : List AV) (k : AH → Option R) : Option R :=
  match h.get f with
  | some (.cells c m rdmin frz eto) => cond (Nat.beq v m) (cond (Nat.ble (Nat.add o vs.length) m) (cond (and (allC vs) (not frz)) (setCellsK vs c o fun c' => h.putK f (.cells c' m m false eto) k) none) none) none
  | _ => none
def newRowK {R : Type} (h : AH) (eto : Option TypeId) (vs : List AV) (k : Nat → Nat → AH → Option R) : Option R :=
  setCellsK vs .lf 0 fun c => fN vs.length fun n => h.newK (.cells c n n false eto) fun f h' => k f n h'

/-- The type of a row that may have moved into a new one of elements e. -/
def keepEt (eto : Option TypeId) (e : TypeId) : Option TypeId :=
  match eto with
  | some t => cond (Nat.beq t e) (some t) none
  | none => none
def keepEtO (o : Nat) (eto : Option TypeId) (e : TypeId) : Option TypeId :=
  match o with
  | 0 => keepEt eto e
  | .succ _ => none
def AV.cells : AV → List AV
  | .agg cs => cs
  | v => [v]

/-! ## Values of the text -/
def ofBytes : List UInt8 → List Nat
  | [] => []
  | b :: r => b.toNat :: ofBytes r
def ofVs (f : Value → Option AV) : List Value → Option (List AV)
  | [] => some []
  | v :: r => match f v with
    | none => none
    | some a => match ofVs f r with
      | none => none
      | some as => some (a :: as)
def ofVF (ih : Value → Option AV) (v : Value) : Option AV :=
  match v with
  | .bool b => some (.bool b)
  | .int k n => fI n fun n => some (.int k n)
  | .string s => some (.str (ofBytes s.data.toList))
  | .pointer none => some .nilptr
  | .slice none 0 0 => some .nilsl
  | .map none => some .nilmap
  | .nilFunc => some .nilfunc
  | .nilIface => some .niliface
  | .func (.func f) ⟨[]⟩ ⟨[]⟩ => some (.func f [] [])
  | .agg cs => (ofVs ih cs.toList).map .agg
  | .tuple cs => (ofVs ih cs.toList).map .tuple
  | .iface t v => (ih v).map (.iface t)
  | _ => none
def ofV (fuel : Nat) : Value → Option AV :=
  Nat.rec (motive := fun _ => Value → Option AV) (fun _ => none) (fun _ ih => ofVF ih) fuel

def toBytesK {R : Type} : List AV → (List Nat → Option R) → Option R
  | [], k => k []
  | .int .u8 n :: r, k => fN (Nat.mod n.toNat 256) fun b => toBytesK r fun l => k (b :: l)
  | _ :: _, _ => none

def toNumsK {R : Type} : List AV → (List Nat → Option R) → Option R
  | [], k => k []
  | .int .u8 (.ofNat n) :: r, k => cond (Nat.blt n 256) (toNumsK r fun l => k (n :: l)) none
  | _ :: _, _ => none

/-! ## Functions without a body -/
def idxN : List Nat → Nat → Nat → Int
  | [], _, _ => .negSucc 0
  | a :: r, c, i => cond (Nat.beq a c) (.ofNat i) (idxN r c (Nat.succ i))
def cntN : List Nat → Nat → Nat → Nat
  | [], _, n => n
  | a :: r, c, n => cntN r c (cond (Nat.beq a c) (Nat.succ n) n)
def cmpN : List Nat → List Nat → Int
  | [], [] => .ofNat 0
  | [], _ :: _ => .negSucc 0
  | _ :: _, [] => .ofNat 1
  | a :: x, b :: y => cond (Nat.blt a b) (.negSucc 0) (cond (Nat.blt b a) (.ofNat 1) (cmpN x y))
/-- The bytes of a string or of a slice of bytes. -/
def bytesA {R : Type} (h : AH) (x : AV) (k : List Nat → Option R) : Option R :=
  match x with
  | .str l => k l
  | .nilsl => k []
  | .sl f v o len esz _ => cond (Nat.beq esz 1) (loadK h f v o len fun cs => toBytesK cs k) none
  | _ => none
def repU : Nat → List AV → List AV
  | 0, l => l
  | .succ n, l => repU n (.unk .u8 :: l)
/-- 1: the argument itself. 2: where a byte stands first. 3: how often it stands. 4: a new row of bytes, whatever they are. -/
def xtFun {R : Type} (kind : Nat) (e : TypeId) (args : List AV) (h : AH) (k : AV → AH → Option R) : Option R :=
  match kind, args with
  | 1, [x] => k x h
  | 2, [b, .int .u8 c] => bytesA h b fun l => fI (idxN l (Nat.mod c.toNat 256) 0) fun n => k (.int .i64 n) h
  | 3, [b, .int .u8 c] => bytesA h b fun l => fN (cntN l (Nat.mod c.toNat 256) 0) fun n => k (.int .i64 (.ofNat n)) h
  | 5, [a, b] => bytesA h a fun l => bytesA h b fun m => fI (cmpN l m) fun n => k (.int .i64 n) h
  | 4, [.int .i64 (.ofNat n)] => cond (Nat.ble n 1099511627776) (newRowK h (some e) (repU n []) fun f m h' => k (.sl f m 0 n 1 none) h') none
  | _, _ => none
def xtRow (P : Program) (kind : Nat) (e : TypeId) (fn : Func) : Prop :=
  match kind with
  | 1 => Extern.find fn = some Extern.AbiNoEscape.same
  | 2 => Extern.find fn = some Extern.BytealgIndexByte.indexByte
  | 3 => Extern.find fn = some Extern.BytealgCount.count
  | 5 => Extern.find fn = some Extern.BytealgCompare.compare
  | 4 => ∃ ps t, Extern.find fn = some (Extern.BytealgMakeNoZero.makeNoZero ps #[t]) ∧ P.underlying t = some (.slice e)
  | _ => False
/-- What a run knows of the program besides its text: the versions of the package's variables; which functions without a body it may call. -/
structure Gl (P : Program) where
  gl : Nat → Option Nat
  xt : FuncId → Nat × TypeId
  ok : ∀ f, (xt f).1 ≠ 0 → ∃ fn, P.funcs[f]? = some fn ∧ (fn.name == "runtime.NumGoroutine") = false ∧ fn.body.isNone = true ∧ Extern.findNext fn = none ∧ xtRow P (xt f).1 (xt f).2 fn
def aEval {P : Program} (gl : Gl P) (tm : Tr AV) : Operand → Option AV
  | .tmp t => tm.get t
  | .const v => ofV 6 v
  | .global g => match gl.gl g with
    | some n => some (.ptr g n 0)
    | none => none
  | .func f => some (.func f [] [])

/-! ## Operators -/
def ltI : Int → Int → Bool
  | .ofNat a, .ofNat b => Nat.blt a b
  | .negSucc a, .ofNat b => true
  | .ofNat a, .negSucc b => false
  | .negSucc a, .negSucc b => Nat.blt b a
def eqI : Int → Int → Bool
  | .ofNat a, .ofNat b => Nat.beq a b
  | .negSucc a, .negSucc b => Nat.beq a b
  | _, _ => false
def maxN : IntKind → Nat
  | .i8 => 128 | .i16 => 32768 | .i32 => 2147483648 | .i64 => 9223372036854775808
  | .u8 => 256 | .u16 => 65536 | .u32 => 4294967296 | .u64 => 18446744073709551616
def wrapI (k : IntKind) (n : Int) : Int :=
  match n with
  | .ofNat m => cond (Nat.blt m (maxN k)) (.ofNat m) (k.wrap (.ofNat m))
  | .negSucc m => cond k.signed (cond (Nat.blt m (maxN k)) (.negSucc m) (k.wrap (.negSucc m))) (k.wrap (.negSucc m))
def eqK : IntKind → IntKind → Bool
  | .i8, .i8 | .i16, .i16 | .i32, .i32 | .i64, .i64 | .u8, .u8 | .u16, .u16 | .u32, .u32 | .u64, .u64 => true
  | _, _ => false
def eqL : List Nat → List Nat → Bool
  | [], [] => true
  | a :: x, b :: y => cond (Nat.beq a b) (eqL x y) false
  | _, _ => false
def ltL : List Nat → List Nat → Bool
  | _, [] => false
  | [], _ :: _ => true
  | a :: x, b :: y => cond (Nat.blt a b) true (cond (Nat.beq a b) (ltL x y) false)
def appK {R : Type} : List Nat → List Nat → (List Nat → R) → R
  | [], y, k => k y
  | a :: x, y, k => appK x y fun z => k (a :: z)

/-- Bits of two numbers that are not below zero and fit. -/
def bitsI (k : IntKind) (slow : BitVec k.bits → BitVec k.bits → BitVec k.bits) (fast : Nat → Nat → Nat) (a b : Int) : Int :=
  match a, b with
  | .ofNat m, .ofNat n => cond (and (Nat.blt m (maxN k)) (Nat.blt n (maxN k))) (.ofNat (fast m n)) (k.wrap (slow (BitVec.ofInt k.bits (.ofNat m)) (BitVec.ofInt k.bits (.ofNat n))).toNat)
  | a, b => k.wrap (slow (BitVec.ofInt k.bits a) (BitVec.ofInt k.bits b)).toNat
def intK (k : IntKind) (n : Int) : Option AV := fI n fun n => some (.int k n)
def aInt (op : BinOp) (k : IntKind) (a b : Int) : Option AV :=
  match op with
  | .add => intK k (wrapI k (a + b))
  | .sub => intK k (wrapI k (a - b))
  | .mul => intK k (wrapI k (a * b))
  | .quo => cond (eqI b 0) none (intK k (wrapI k (a.tdiv b)))
  | .rem => cond (eqI b 0) none (intK k (a.tmod b))
  | .and => intK k (bitsI k (· &&& ·) Nat.land a b)
  | .or => intK k (bitsI k (· ||| ·) Nat.lor a b)
  | .xor => intK k (bitsI k (· ^^^ ·) Nat.xor a b)
  | .andNot => intK k (k.wrap (BitVec.ofInt k.bits a &&& ~~~ BitVec.ofInt k.bits b).toNat)
  | .eql => some (.bool (eqI a b))
  | .neq => some (.bool (not (eqI a b)))
  | .lss => some (.bool (ltI a b))
  | .leq => some (.bool (not (ltI b a)))
  | .gtr => some (.bool (ltI b a))
  | .geq => some (.bool (not (ltI a b)))
  | _ => none
def aStr (op : BinOp) (a b : List Nat) : Option AV :=
  match op with
  | .add => cond (Nat.ble (Nat.add a.length b.length) 9223372036854775807) (appK a b fun l => some (.str l)) none
  | .eql => some (.bool (eqL a b))
  | .neq => some (.bool (not (eqL a b)))
  | .lss => some (.bool (ltL a b))
  | .leq => some (.bool (or (ltL a b) (eqL a b)))
  | .gtr => some (.bool (not (or (ltL a b) (eqL a b))))
  | .geq => some (.bool (not (ltL a b)))
  | _ => none
/-- '==' of values that are no numbers and no strings. -/
def aEq (d : Option TypeDesc) (x y : AV) : Option Bool :=
  match d, x, y with
  | some .bool, .bool a, .bool b => some (cond a b (not b))
  | some (.pointer _), .nilptr, .nilptr => some true
  | some (.pointer _), .nilptr, .ptr .. => some false
  | some (.pointer _), .ptr .., .nilptr => some false
  | some (.slice _), .nilsl, .nilsl => some true
  | some (.slice _), .nilsl, .sl .. => some false
  | some (.slice _), .sl .., .nilsl => some false
  | some (.map _ _), .nilmap, .nilmap => some true
  | some (.map _ _), .nilmap, .map .. => some false
  | some (.map _ _), .map .., .nilmap => some false
  | some (.func _ _ _), .nilfunc, .nilfunc => some true
  | some (.func _ _ _), .nilfunc, .func .. => some false
  | some (.func _ _ _), .func .., .nilfunc => some false
  | some (.interface _), .niliface, .iface .. => some false
  | some (.interface _), .iface .., .niliface => some false
  | _, _, _ => none
def aBin (d : Unit → Option TypeDesc) (op : BinOp) (x y : AV) : Option AV :=
  match x, y with
  | .int k a, .int k' b =>
    match op with
    | .shl => cond (ltI b 0) none (intK k (wrapI k (a * .ofNat (Nat.pow 2 (min b.toNat k.bits)))))
    | .shr => cond (ltI b 0) none (intK k (a.fdiv (.ofNat (Nat.pow 2 (min b.toNat k.bits)))))
    | op => cond (eqK k k') (aInt op k a b) none
  | .str a, .str b => aStr op a b
  | x, y => match op with
    | .eql => match aEq (d ()) x y with
      | some b => some (.bool b)
      | none => none
    | .neq => match aEq (d ()) x y with
      | some b => some (.bool (not b))
      | none => none
    | _ => none
def aUn (op : UnOp) (x : AV) : Option AV :=
  match op, x with
  | .neg, .int k n => intK k (wrapI k (0 - n))
  | .xor, .int k n => intK k (k.wrap (BitVec.ofInt k.bits (if k.signed then -1 else k.max) ^^^ BitVec.ofInt k.bits n).toNat)
  | .not, .bool b => some (.bool (not b))
  | _, _ => none

def eqStrs : Nat → List AV → List AV → Option Bool
  | 0, _, _ => some true
  | .succ n, .str a :: x, .str b :: y => cond (eqL a b) (eqStrs n x y) (some false)
  | _, _, _ => none
/-- '==' of numbers, strings and truth values. -/
def leafEq (d : TypeDesc) (x y : AV) : Option Bool :=
  match d, x, y with
  | .bool, .bool a, .bool b => some (cond a b (not b))
  | .int _, .int k a, .int k' b => cond (eqK k k') (some (eqI a b)) none
  | .string, .str a, .str b => some (eqL a b)
  | _, _, _ => none
/-- '==' of structs of such, field by field. -/
def eqFlds (P : Program) (xs ys : List AV) : List Field → Option Bool
  | [] => some true
  | f :: r => cond (f.name == "_") none (match P.underlying f.type, xs[f.offset]?, ys[f.offset]? with
    | some d, some a, some b => match leafEq d a b with
      | some true => eqFlds P xs ys r
      | some false => some false
      | none => none
    | _, _, _ => none)
/-! ## Operations -/
inductive AN where
  | val (v : AV)
  | enter (f : FuncId) (args : List AV)

def lenL : List AV → Nat
  | [] => 0
  | _ :: r => Nat.succ (lenL r)
def dropL : List AV → Nat → List AV
  | l, 0 => l
  | [], _ => []
  | _ :: r, .succ n => dropL r n
/-- Just n cells. -/
def takeK {R : Type} : List AV → Nat → (List AV → Option R) → Option R
  | _, 0, k => k []
  | [], .succ _, _ => none
  | a :: r, .succ n, k => takeK r n fun l => k (a :: l)
def updL : List AV → Nat → List AV → Option (List AV)
  | l, 0, [] => some l
  | [], _, _ => none
  | _ :: r, 0, v :: vs => (updL r 0 vs).map (v :: ·)
  | a :: r, .succ n, vs => (updL r n vs).map (a :: ·)

def sizeT (P : Program) (t : TypeId) : Option Nat := match P.info? t with
  | some i => some i.size
  | none => none
def zeroT (P : Program) (t : TypeId) : Option AV := match P.info? t with
  | some i => match i.zero with
    | some z => ofV 6 z
    | none => none
  | none => none
def aggT (P : Program) (t : TypeId) : Option Bool := match P.underlying t with
  | some (.struct _) => some true
  | some (.array _ _) => some true
  | some _ => some false
  | none => none

def loadT {R : Type} (P : Program) (h : AH) (t : TypeId) (f v o : Nat) (k : AV → Option R) : Option R :=
  match aggT P t with
  | none => none
  | some true => match sizeT P t with
    | none => none
    | some n => loadK h f v o n fun l => k (.agg l)
  | some false => loadK h f v o 1 fun l => match l with
    | [x] => k x
    | _ => none
def storeT {R : Type} (P : Program) (h : AH) (t : TypeId) (f v o : Nat) (x : AV) (k : AH → Option R) : Option R :=
  match sizeT P t with
  | none => none
  | some n => cond (Nat.beq (lenL x.cells) n) (storeK h f v o x.cells k) none
def partT {R : Type} (P : Program) (t : TypeId) (cs : List AV) (off : Nat) (k : AV → Option R) : Option R :=
  match aggT P t with
  | none => none
  | some true => match sizeT P t with
    | none => none
    | some n => takeK (dropL cs off) n fun l => k (.agg l)
  | some false => match dropL cs off with
    | x :: _ => k x
    | [] => none

def fillL (place : Nat → Option (Nat × Nat)) : List AV → List (Nat × AV) → Option (List AV)
  | cells, [] => some cells
  | cells, (i, v) :: rest => match place i with
    | none => none
    | some (off, size) => cond (Nat.beq (lenL v.cells) size) (match updL cells off v.cells with
      | none => none
      | some cells' => fillL place cells' rest) none
def repL : Nat → List AV → List AV → List AV
  | 0, _, acc => acc
  | .succ n, z, acc => repL n z (z ++ acc)

/-- The cells of n elements at a value (a slice, a string). -/
def firstK {R : Type} (h : AH) (size n : Nat) (x : AV) (k : List AV → Option R) : Option R :=
  match x with
  | .nilsl => k []
  | .sl f v o len esz _ => cond (Nat.beq esz size) (loadK h f v o (Nat.mul n size) k) none
  | .str l => cond (Nat.beq size 1) (bytesK l n k) none
  | _ => none
where
  bytesK {R : Type} : List Nat → Nat → (List AV → Option R) → Option R
  | _, 0, k => k []
  | [], _, k => k []
  | b :: r, .succ n, k => bytesK r n fun l => k (.int .u8 (.ofNat b) :: l)
def lenOfA : AV → Option Nat
  | .nilsl => some 0
  | .sl _ _ _ len _ _ => some len
  | .str l => some l.length
  | _ => none

/-- append of cells (whole elements) to a slice. -/
def appendK {R : Type} (h : AH) (e : TypeId) (size bytes : Nat) (s : AV) (n : Nat) (new : List AV) (k : AV → AH → Option R) : Option R :=
  match n with
  | 0 => match s with
    | .nilsl => k s h
    | .sl f v o len esz lim => k s h
    | _ => none
  | .succ _ =>
    cond (allC new) (match s with
    | .nilsl => cond (Nat.ble (Nat.mul n bytes) 140737488355328) (newRowK h (some e) new fun f m h' => k (.sl f m 0 n size none) h') none
    | .sl f v o len esz lim =>
      cond (and (Nat.beq esz size) (Nat.ble (Nat.mul (Nat.add len n) bytes) 140737488355328))
        (fN (Nat.add len n) fun len' =>
        match lim with
        | some L =>
          cond (Nat.ble (Nat.add o (Nat.mul len' size)) L)
            (match h.get f with
              | some (.cells c m rdmin frz eto) => cond (and (Nat.beq v m) (and (Nat.beq (Nat.add o (Nat.mul len size)) m) (not frz)))
                  (setCellsK new c m fun c' => fN (Nat.add m new.length) fun m' => h.putK f (.cells c' m' rdmin false eto) fun h' => k (.sl f m' o len' size lim) h') none
              | _ => none)
            (loadK h f v o (Nat.mul len size) fun old => appL old new fun all => newRowK h (some e) all fun f' m' h' => k (.sl f' m' 0 len' size none) h')
        | none =>
          match h.get f with
          | some (.cells c m rdmin frz eto) =>
            cond (and (Nat.beq o 0) (and (Nat.beq v m) (Nat.beq (Nat.mul len size) m)))
              (cond frz none (setCellsK new c m fun c' => fN (Nat.add m new.length) fun m' => h.putK f (.cells c' m' rdmin false (keepEt eto e)) fun h' => k (.sl f m' 0 len' size none) h'))
              (cond (and (Nat.beq v m) (not frz)) (loadK h f v o (Nat.mul len size) fun old => appL old new fun all => h.putK f .dead fun h1 => newRowK h1 (keepEtO o eto e) all fun f' m' h' => k (.sl f' m' 0 len' size none) h') none)
          | _ => none) none
    | _ => none) none
where
  appL {R : Type} : List AV → List AV → (List AV → R) → R
  | [], y, k => k y
  | a :: x, y, k => appL x y fun z => k (a :: z)

def natOf : AV → Option Nat
  | .int _ (.ofNat n) => some n
  | _ => none
def optNat (d : Nat) : Option AV → Option Nat
  | none => some d
  | some v => natOf v

/-- Does this version reach so far (a slice may be cut behind its length)? -/
def reachB (h : AH) (f v : Nat) (lim : Option Nat) (n : Nat) : Bool :=
  match lim with
  | none => match h.get f with
    | some (.cells _ _ rd _ _) => and (Nat.ble rd v) (Nat.ble n v)
    | _ => false
  | some _ => false
def aSlice {R : Type} (P : Program) (h : AH) (t : TypeId) (x : AV) (lo hi mx : Option AV) (k : AV → Option R) : Option R :=
  match P.underlying t, x with
  | some .string, .str l =>
    match optNat 0 lo, optNat l.length hi, mx with
    | some a, some b, none => cond (and (Nat.ble a b) (Nat.ble b l.length)) (cutK l a (Nat.sub b a) fun l' => k (.str l')) none
    | _, _, _ => none
  | some (.slice e), .nilsl =>
    match sizeT P e, optNat 0 lo, optNat 0 hi, mx with
    | some _, some 0, some 0, none => k .nilsl
    | _, _, _, _ => none
  | some (.slice e), .sl f v o len esz lim =>
    match sizeT P e, optNat 0 lo, optNat len hi, mx with
    | some size, some a, some b, none =>
      cond (and (Nat.beq size esz) (and (Nat.ble a b) (or (Nat.ble b len) (reachB h f v lim (Nat.add o (Nat.mul b esz)))))) (fN (Nat.add o (Nat.mul a esz)) fun o' => fN (Nat.sub b a) fun n' => k (.sl f v o' n' esz lim)) none
    | some size, some a, some b, some m =>
      match natOf m, hi with
      | some c, some _ => cond (and (Nat.beq size esz) (and (and (Nat.ble a b) (Nat.ble b len)) (and (Nat.ble b c) (Nat.ble c len))))
          (fN (Nat.add o (Nat.mul a esz)) fun o' => fN (Nat.sub b a) fun n' => fN (Nat.add o (Nat.mul c esz)) fun L => k (.sl f v o' n' esz (some L))) none
      | _, _ => none
    | _, _, _, _ => none
  | some (.array n e), .ptr f v o =>
    match sizeT P e, optNat 0 lo, optNat n hi, mx with
    | some size, some a, some b, none => match h.get f with
      | some (.cells c m rdmin _ _) =>
      cond (and (and (Nat.ble rdmin v) (and (Nat.ble v m) (Nat.ble (Nat.add o (Nat.mul n size)) v))) (and (Nat.ble a b) (and (Nat.ble b n) (and (Nat.blt 0 size) (Nat.ble n 1099511627776))))) (fN (Nat.add o (Nat.mul a size)) fun o' => fN (Nat.sub b a) fun n' => fN (Nat.add o (Nat.mul n size)) fun L => k (.sl f v o' n' size (some L))) none
      | _ => none
    | _, _, _, _ => none
  | _, _ => none
where
  cutK {R : Type} : List Nat → Nat → Nat → (List Nat → Option R) → Option R
  | l, 0, n, k => tk l n k
  | [], .succ _, n, k => tk [] n k
  | _ :: r, .succ a, n, k => cutK r a n k
  tk {R : Type} : List Nat → Nat → (List Nat → Option R) → Option R
  | _, 0, k => k []
  | [], .succ _, _ => none
  | a :: r, .succ n, k => tk r n fun l => k (a :: l)

def nthN : List Nat → Nat → Option Nat
  | [], _ => none
  | a :: _, 0 => some a
  | _ :: r, .succ n => nthN r n

def mapEv {P : Program} (gl : Gl P) (tm : Tr AV) : List Operand → Option (List AV)
  | [] => some []
  | x :: r => match aEval gl tm x with
    | none => none
    | some v => match mapEv gl tm r with
      | none => none
      | some vs => some (v :: vs)
def mapEvP {P : Program} (gl : Gl P) (tm : Tr AV) : List (Nat × Operand) → Option (List (Nat × AV))
  | [] => some []
  | (i, x) :: r => match aEval gl tm x with
    | none => none
    | some v => match mapEvP gl tm r with
      | none => none
      | some vs => some ((i, v) :: vs)
def evO {P : Program} (gl : Gl P) (tm : Tr AV) : Option Operand → Option (Option AV)
  | none => some none
  | some x => match aEval gl tm x with
    | none => none
    | some v => some (some v)

/-! ## Maps and ranges over strings -/
/-- Is it a key of its type, of a kind that is compared at once? -/
def keyB : TypeDesc → AV → Bool
  | .int _, .int _ _ => true
  | .string, .str _ => true
  | _, _ => false
def sameKeyA (k k2 : AV) : Option Bool :=
  match k, k2 with
  | .int j a, .int j' b => cond (eqK j j') (some (eqI a b)) none
  | .str a, .str b => some (eqL a b)
  | _, _ => none
def findA (k : AV) : List (AV × AV × Nat) → Option (Option AV)
  | [] => some none
  | (k2, v, _) :: r => match sameKeyA k k2 with
    | some true => some (some v)
    | some false => findA k r
    | none => none
/-- The entries of a map. -/
def entsA (h : AH) (m : AV) : Option (List (AV × AV × Nat)) :=
  match m with
  | .nilmap => some []
  | .map f => match h.get f with
    | some (.mp (.ents es) _) => some es
    | _ => none
  | _ => none
/-- The entries with this one laid, and whether it was there. -/
def updA (k v : AV) (ck : Nat) : List (AV × AV × Nat) → Option (List (AV × AV × Nat) × Bool)
  | [] => some ([(k, v, ck)], false)
  | (k2, v2, b) :: r => match sameKeyA k k2 with
    | some true => some ((k, v, b) :: r, true)
    | some false => match updA k v ck r with
      | some (r', fd) => some ((k2, v2, b) :: r', fd)
      | none => none
    | none => none
def delA (k : AV) : List (AV × AV × Nat) → Option (List (AV × AV × Nat))
  | [] => some []
  | (k2, v2, b) :: r => match sameKeyA k k2 with
    | some true => some r
    | some false => match delA k r with
      | some r' => some ((k2, v2, b) :: r')
      | none => none
    | none => none
def toU : List Nat → List UInt8
  | [] => []
  | b :: r => UInt8.ofNat b :: toU r
/-- The rune at a place of a string, and its width. none: the string ends. -/
def decA {R : Type} (s : List Nat) (pos : Nat) (fin : Option R) (k : Nat → Nat → Option R) : Option R :=
  match nthN s pos with
  | none => fin
  | some b => cond (Nat.blt b 128) (fN (Nat.succ pos) fun p => k b p)
      (match Utf8.decode ⟨⟨toU s⟩⟩ pos with
      | (c, wd) => fN c fun c => fN (Nat.add pos wd) fun p => k c p)

def aBuiltin (P : Program) (h : AH) (b : Builtin) (ts : List TypeId) (args : List AV) (k : AV → AH → Option (AN × AH)) : Option (AN × AH) :=
  match b, ts, args with
  | .len, t :: _, x :: _ => match P.underlying t, x with
    | some .string, .str l => fN l.length fun n => k (.int .i64 (.ofNat n)) h
    | some (.slice _), .nilsl => k (.int .i64 (.ofNat 0)) h
    | some (.slice _), .sl _ _ _ n _ _ => k (.int .i64 (.ofNat n)) h
    | some (.array n _), _ => k (.int .i64 (.ofNat n)) h
    | some (.map _ _), .nilmap => k (.int .i64 (.ofNat 0)) h
    | some (.map _ _), .map r => match h.get r with
      | some (.mp (.ents es) _) => fN es.length fun n => k (.int .i64 (.ofNat n)) h
      | _ => none
    | _, _ => none
  | .append, t :: t2 :: _, s :: x :: _ =>
    match P.underlying t, P.underlying t2 with
    | some (.slice e), some (.int _) => match P.info? e, x with
      | some i, .int _ (.ofNat n) => match i.zero with
        | some z => cond (and (Nat.blt 0 n) (and (Nat.ble n 1099511627776) (and (Nat.ble (Nat.mul n i.bytes) 140737488355328) (and (Nat.beq z.cells.size i.size) (and (Nat.blt 0 i.size) (Nat.blt 0 i.bytes)))))) (match ofV 6 z with
          | some za => appendK h e i.size i.bytes s n (repL n za.cells []) k
          | none => none) none
        | none => none
      | _, _ => none
    | some (.slice e), some _ => match P.info? e, lenOfA x with
      | some i, some n => match i.zero with
        | some z => cond (and (Nat.beq z.cells.size i.size) (and (Nat.blt 0 i.size) (Nat.blt 0 i.bytes))) (firstK h i.size n x fun new => appendK h e i.size i.bytes s n new k) none
        | none => none
      | _, _ => none
    | _, _ => none
  | .copy, t :: _, d :: x :: _ =>
    match P.underlying t, d with
    | some (.slice e), .nilsl => match sizeT P e, lenOfA x with
      | some size, some _ => firstK h size 0 x fun _ => k (.int .i64 (.ofNat 0)) h
      | _, _ => none
    | some (.slice e), .sl f v o len esz _ => match sizeT P e, lenOfA x with
      | some size, some n => cond (Nat.beq size esz) (fN (Nat.min n len) fun m => firstK h size m x fun cs =>
          match m with
          | 0 => k (.int .i64 (.ofNat 0)) h
          | m => storeK h f v o cs fun h' => k (.int .i64 (.ofNat m)) h') none
      | _, _ => none
    | _, _ => none
  | .cap, t :: _, [.nilsl] => match P.underlying t with
    | some (.slice _) => k (.int .i64 (.ofNat 0)) h
    | _ => none
  | .unsafeSliceData, _, [.nilsl] => k .nilptr h
  | .unsafeSliceData, _, [.sl f v o len _ _] => cond (Nat.blt 0 len) (k (.ptr f v o) h) none
  | .unsafeString, [t, _], [p, .int .i64 (.ofNat n)] => match n with
    | 0 => match p with
      | .nilptr => k (.str []) h
      | .ptr .. => k (.str []) h
      | _ => none
    | n => match p, P.underlying t with
      | .ptr f v 0, some (.pointer e) => match h.get f with
        | some (.cells c m rdmin frz (some et)) => cond (and (and (Nat.beq et e) (Nat.beq (P.cellsOf e) 1)) (and (Nat.ble n 9223372036854775807) (Nat.beq v m)))
            (loadK h f v 0 n fun cs => toNumsK cs fun l => h.putK f (.cells c m m true (some et)) fun h' => k (.str l) h') none
        | _ => none
      | _, _ => none
  | .clear, t :: _, [.map f] => match P.underlying t, h.get f with
    | some _, some (.mp (.ents _) ck) => h.putK f (.mp (.ents []) ck) fun h' => k (.tuple []) h'
    | _, _ => none
  | .clear, t :: _, [.nilsl] => match P.underlying t with
    | some _ => k (.tuple []) h
    | none => none
  | .clear, t :: _, [.sl f v o len esz lim] => match len, P.underlying t with
    | 0, some _ => k (.tuple []) h
    | .succ n, some (.slice e) => match P.info? e with
      | some i => match i.zero with
        | some z => match ofV 6 z with
          | some za => cond (and (Nat.beq z.cells.size i.size) (Nat.beq i.size esz)) (storeK h f v o (repL (.succ n) za.cells []) fun h' => k (.tuple []) h') none
          | none => none
        | none => none
      | none => none
    | _, _ => none
  | .delete, t :: _, [.map f, key] => match P.underlying t with
    | some (.map kt _) => match P.underlying kt, h.get f with
      | some d, some (.mp (.ents es) ck) => cond (keyB d key) (match delA key es with
        | some es' => h.putK f (.mp (.ents es') ck) fun h' => k (.tuple []) h'
        | none => none) none
      | _, _ => none
    | _ => none
  | .min, _, [.int j a, .int _ b] => k (.int j (cond (ltI b a) b a)) h
  | .max, _, [.int j a, .int _ b] => k (.int j (cond (ltI a b) b a)) h
  | _, _, _ => none

def nilB : AV → Bool
  | .nilptr => true
  | .niliface => true
  | .nilfunc => true
  | _ => false

/-- Is the function entered? -/
def enterB (P : Program) (f : FuncId) : Bool :=
  match P.funcs[f]? with
  | some fn => cond fn.body.isNone false (not (fn.name == "runtime.NumGoroutine"))
  | none => false
def oMove {P : Program} (gl : Gl P) (x : Operand) (tm : Tr AV) (h : AH) : Option (AN × AH) := match aEval gl tm x with
    | some v => some (.val v, h)
    | none => none
def oPick {P : Program} (gl : Gl P) (c a b : Operand) (tm : Tr AV) (h : AH) : Option (AN × AH) := match aEval gl tm c with
    | some (.bool true) => match aEval gl tm a with
      | some v => some (.val v, h)
      | none => none
    | some (.bool false) => match aEval gl tm b with
      | some v => some (.val v, h)
      | none => none
    | _ => none
def oAlloc {P : Program} (gl : Gl P) (t : TypeId) (tm : Tr AV) (h : AH) : Option (AN × AH) := match zeroT P t with
    | some z => newRowK h (some t) z.cells fun f n h' => some (.val (.ptr f n 0), h')
    | none => none
def oBox {P : Program} (gl : Gl P) (t : TypeId) (x : Operand) (tm : Tr AV) (h : AH) : Option (AN × AH) := match aEval gl tm x with
    | some v => newRowK h (some t) v.cells fun f n h' => some (.val (.ptr f n 0), h')
    | none => none
def oBuild {P : Program} (gl : Gl P) (t : TypeId) (parts : Array (Nat × Operand)) (tm : Tr AV) (h : AH) : Option (AN × AH) := match P.info? t, mapEvP gl tm parts.toList, P.underlying t with
    | some it, some ps, some (.struct fs) =>
      match it.zero, fs.toList.mapM (fun f => (P.info? f.type).map fun i => (f.offset, i.size)) with
      | some z, some places => match ofV 6 z with
        | some za => match fillL (places.toArray[·]?) za.cells ps with
          | some cs => some (.val (.agg cs), h)
          | none => none
        | none => none
      | _, _ => none
    | some it, some ps, some (.array _ e) => match it.zero, P.info? e with
      | some z, some ie => match ofV 6 z with
        | some za => match fillL (fun i => some (i * ie.size, ie.size)) za.cells ps with
          | some cs => some (.val (.agg cs), h)
          | none => none
        | none => none
      | _, _ => none
    | _, _, _ => none
def oBuildSlice {P : Program} (gl : Gl P) (t : TypeId) (len : Nat) (parts : Array (Nat × Operand)) (tm : Tr AV) (h : AH) : Option (AN × AH) := match P.underlying t, mapEvP gl tm parts.toList with
    | some (.slice e), some ps => match P.info? e with
      | some ie => match ie.zero with
        | some z => match ofV 6 z with
          | some za => cond (and (Nat.blt 0 ie.size) (and (Nat.ble (Nat.mul len ie.size) 16777216) (Nat.beq z.cells.size ie.size)))
              (match fillL (fun i => some (i * ie.size, ie.size)) (repL len za.cells []) ps with
              | some cs => newRowK h (some e) cs fun f n h' => some (.val (.sl f n 0 len ie.size (some n)), h')
              | none => none) none
          | none => none
        | none => none
      | none => none
    | _, _ => none
def oLoad {P : Program} (gl : Gl P) (t : TypeId) (x : Operand) (tm : Tr AV) (h : AH) : Option (AN × AH) := match aEval gl tm x with
    | some (.ptr f v o) => loadT P h t f v o fun x => some (.val x, h)
    | _ => none
def oStore {P : Program} (gl : Gl P) (t : TypeId) (x y : Operand) (tm : Tr AV) (h : AH) : Option (AN × AH) := match aEval gl tm x, aEval gl tm y with
    | some (.ptr f v o), some y => storeT P h t f v o y fun h' => some (.val (.tuple []), h')
    | _, _ => none
def oNilCheck {P : Program} (gl : Gl P) (x : Operand) (tm : Tr AV) (h : AH) : Option (AN × AH) := match aEval gl tm x with
    | some (.ptr f v o) => some (.val (.ptr f v o), h)
    | some (.func f [] []) => some (.val (.func f [] []), h)
    | _ => none
/-- Do two places of a type that is not empty agree? Of two families: they lie in different blocks. -/
def ptrCmpA (h : AH) (sz f v o f' v' o' : Nat) : Option Bool :=
  cond (Nat.blt 0 sz) (cond (Nat.beq f f') (cond (Nat.beq v v') (some (Nat.beq o o')) none) (match h.get f, h.get f' with
    | some (.cells _ n _ false (some _)), some (.cells _ n' _ false (some _)) => cond (and (Nat.beq v n) (Nat.beq v' n')) (some false) none
    | _, _ => none)) none
def oBinOp {P : Program} (gl : Gl P) (op : BinOp) (t : TypeId) (x y : Operand) (tm : Tr AV) (h : AH) : Option (AN × AH) := match aEval gl tm x, aEval gl tm y with
    | some (.agg xs), some (.agg ys) => match P.underlying t with
      | some (.array n e) => match P.underlying e, sizeT P e, eqStrs n xs ys with
        | some .string, some 1, some b => match op with
          | .eql => some (.val (.bool b), h)
          | .neq => some (.val (.bool (not b)), h)
          | _ => none
        | _, _, _ => none
      | some (.struct fs) => cond (and (not (P.stoodInHeld t)) (not (P.eqGuardType P.depth t))) (match eqFlds P xs ys fs.toList with
        | some b => match op with
          | .eql => some (.val (.bool b), h)
          | .neq => some (.val (.bool (not b)), h)
          | _ => none
        | none => none) none
      | _ => none
    | some (.ptr f v o), some (.ptr f' v' o') => match op, P.underlying t with
      | .eql, some (.pointer e) => match sizeT P e with
        | some sz => match ptrCmpA h sz f v o f' v' o' with
          | some b => some (.val (.bool b), h)
          | none => none
        | none => none
      | .neq, some (.pointer e) => match sizeT P e with
        | some sz => match ptrCmpA h sz f v o f' v' o' with
          | some b => some (.val (.bool (not b)), h)
          | none => none
        | none => none
      | _, _ => none
    | some a, some b => match aBin (fun _ => P.underlying t) op a b with
      | some v => some (.val v, h)
      | none => none
    | _, _ => none
def oUnOp {P : Program} (gl : Gl P) (op : UnOp) (x : Operand) (tm : Tr AV) (h : AH) : Option (AN × AH) := match aEval gl tm x with
    | some a => match aUn op a with
      | some v => some (.val v, h)
      | none => none
    | none => none
def oConvert {P : Program} (gl : Gl P) (s d : TypeId) (x : Operand) (tm : Tr AV) (h : AH) : Option (AN × AH) := match P.underlying s, P.underlying d, aEval gl tm x with
    | some (.slice _), some (.slice e), some (.sl f v o len esz lim) => match P.underlying e with
      | some (.int .u8) => cond (Nat.beq s d) (match h.get f with
        | some (.cells c m rdmin frz eto) => cond (Nat.beq v m) (h.putK f (.cells c m m true eto) fun h' => some (.val (.sl f v o len esz lim), h')) none
        | _ => none) none
      | _ => none
    | some (.pointer t), some .unsafePointer, some x => match x with
      | .nilptr => some (.val .nilptr, h)
      | .ptr f v o => match sizeT P t, h.get f with
        | some sz, some (.cells c m rdmin _ _) => cond (and (Nat.blt 0 sz) (and (Nat.ble rdmin v) (and (Nat.ble v m) (Nat.blt o v)))) (some (.val (.ptr f v o), h)) none
        | _, _ => none
      | _ => none
    | some .unsafePointer, some (.pointer t), some x => match x with
      | .nilptr => some (.val .nilptr, h)
      | .ptr f v o => match sizeT P t, h.get f with
        | some sz, some (.cells c m rdmin _ (some et)) => cond (and (and (Nat.beq et t) (Nat.beq o 0)) (and (and (Nat.blt 0 sz) (Nat.ble sz v)) (and (Nat.ble rdmin v) (Nat.ble v m)))) (some (.val (.ptr f v o), h)) none
        | _, _ => none
      | _ => none
    | some _, some (.int k), some (.int _ n) => match intK k (wrapI k n) with
      | some v => some (.val v, h)
      | none => none
    | some _, some .string, some (.str l) => some (.val (.str l), h)
    | some _, some (.slice e), some (.str l) => match P.underlying e with
      | some (.int .u8) => cond (Nat.ble l.length 9223372036854775807) (firstK h 1 l.length (.str l) fun cs => newRowK h none cs fun f n h' => some (.val (.sl f n 0 n 1 none), h')) none
      | _ => none
    | some (.slice e), some .string, some .nilsl => match P.underlying e with
      | some (.int .u8) => some (.val (.str []), h)
      | _ => none
    | some (.slice e), some .string, some (.sl f v o len esz _) => match P.underlying e with
      | some (.int .u8) => cond (Nat.beq esz 1) (loadK h f v o len fun cs => toBytesK cs fun l => some (.val (.str l), h)) none
      | _ => none
    | _, _, _ => none
def oMakeInterface {P : Program} (gl : Gl P) (t : TypeId) (x : Operand) (tm : Tr AV) (h : AH) : Option (AN × AH) := match P.underlying t, aEval gl tm x with
    | some (.interface _), _ => none
    | some _, some v => some (.val (.iface t v), h)
    | _, _ => none
def oMakeFunc {P : Program} (gl : Gl P) (fn : Fn) (first captured : Array Operand) (tm : Tr AV) (h : AH) : Option (AN × AH) := match fn with
  | .func f => match mapEv gl tm first.toList, mapEv gl tm captured.toList with
    | some a, some b => some (.val (.func f a b), h)
    | _, _ => none
  | _ => none
def oMakeSlice {P : Program} (gl : Gl P) (t : TypeId) (l c : Operand) (tm : Tr AV) (h : AH) : Option (AN × AH) := match P.underlying t, aEval gl tm l, aEval gl tm c with
    | some (.slice e), some (.int _ (.ofNat l)), some (.int _ (.ofNat c)) => match P.info? e with
      | some i => match i.zero with
        | some z' => match ofV 6 z' with
          | some z => cond (and (and (Nat.blt 0 i.size) (Nat.beq z'.cells.size i.size)) (and (Nat.ble l c) (and (Nat.ble c 1099511627776) (Nat.ble (Nat.mul c i.bytes) 140737488355328))))
              (cond (Nat.ble l 30000) (newRowK h (some e) (repL l z.cells []) fun f n h' => fN (Nat.mul c i.size) fun L => some (.val (.sl f n 0 l i.size (some L)), h'))
                (h.newK .dead fun f h' => fN (Nat.mul l i.size) fun n => fN (Nat.mul c i.size) fun L => some (.val (.sl f n 0 l i.size (some L)), h'))) none
          | none => none
        | none => none
      | none => none
    | _, _, _ => none
def oSlice {P : Program} (gl : Gl P) (t : TypeId) (x : Operand) (lo hi mx : Option Operand) (tm : Tr AV) (h : AH) : Option (AN × AH) := match aEval gl tm x, evO gl tm lo, evO gl tm hi, evO gl tm mx with
    | some x, some lo, some hi, some mx => aSlice P h t x lo hi mx fun v => some (.val v, h)
    | _, _, _, _ => none
def oFieldAddr {P : Program} (gl : Gl P) (t : TypeId) (x : Operand) (i : Nat) (tm : Tr AV) (h : AH) : Option (AN × AH) := match P.underlying t, aEval gl tm x with
    | some (.struct fs), some (.ptr f v o) => match fs[i]? with
      | some fd => match sizeT P fd.type with
        | some s => cond (Nat.blt 0 s) (fN (Nat.add o fd.offset) fun o' => some (.val (.ptr f v o'), h)) none
        | none => none
      | none => none
    | _, _ => none
def oField {P : Program} (gl : Gl P) (t : TypeId) (x : Operand) (i : Nat) (tm : Tr AV) (h : AH) : Option (AN × AH) := match P.underlying t, aEval gl tm x with
    | some (.struct fs), some (.agg cs) => match fs[i]? with
      | some fd => partT P fd.type cs fd.offset fun v => some (.val v, h)
      | none => none
    | _, _ => none
def oIndexAddr {P : Program} (gl : Gl P) (t : TypeId) (x i : Operand) (tm : Tr AV) (h : AH) : Option (AN × AH) := match P.underlying t, aEval gl tm x, aEval gl tm i with
    | some (.slice e), some (.sl f v o len esz _), some (.int _ (.ofNat n)) => match sizeT P e with
      | some s => cond (and (Nat.beq s esz) (Nat.blt n len)) (fN (Nat.add o (Nat.mul n s)) fun o' => some (.val (.ptr f v o'), h)) none
      | none => none
    | some (.array len e), some (.ptr f v o), some (.int _ (.ofNat n)) => match sizeT P e with
      | some s => cond (Nat.blt n len) (fN (Nat.add o (Nat.mul n s)) fun o' => some (.val (.ptr f v o'), h)) none
      | none => none
    | _, _, _ => none
def oIndex {P : Program} (gl : Gl P) (t : TypeId) (x i : Operand) (tm : Tr AV) (h : AH) : Option (AN × AH) := match P.underlying t, aEval gl tm x, aEval gl tm i with
    | some .string, some (.str l), some (.int _ (.ofNat n)) => match nthN l n with
      | some b => some (.val (.int .u8 (.ofNat b)), h)
      | none => none
    | some (.array len e), some (.agg cs), some (.int _ (.ofNat n)) => match sizeT P e with
      | some s => cond (Nat.blt n len) (partT P e cs (Nat.mul n s) fun v => some (.val v, h)) none
      | none => none
    | _, _, _ => none
def oMakeMap {P : Program} (gl : Gl P) (t : TypeId) (y : Option Operand) (tm : Tr AV) (h : AH) : Option (AN × AH) := match y with
    | none => h.newK (.mp (.ents []) 0) fun f h' => some (.val (.map f), h')
    | some y => match P.underlying t, aEval gl tm y with
      | some (.map _ _), some (.int _ _) => h.newK (.mp (.ents []) 0) fun f h' => some (.val (.map f), h')
      | _, _ => none
def oLookup {P : Program} (gl : Gl P) (t : TypeId) (x y : Operand) (ok : Bool) (tm : Tr AV) (h : AH) : Option (AN × AH) := match P.underlying t, aEval gl tm x, aEval gl tm y with
    | some (.map kt e), some m, some key => match P.underlying kt with
      | some d => cond (keyB d key) (match entsA h m with
        | some es => match findA key es with
          | some (some v) => some (.val (cond ok (.tuple [v, .bool true]) v), h)
          | some none => match zeroT P e with
            | some z => some (.val (cond ok (.tuple [z, .bool false]) z), h)
            | none => none
          | none => none
        | none => none) none
      | none => none
    | _, _, _ => none
def oMapUpdate {P : Program} (gl : Gl P) (t : TypeId) (x y z : Operand) (tm : Tr AV) (h : AH) : Option (AN × AH) := match P.underlying t, aEval gl tm x, aEval gl tm y, aEval gl tm z with
    | some (.map kt e), some (.map f), some key, some v => match P.underlying kt, h.get f with
      | some d, some (.mp (.ents es) ck) => cond (keyB d key) (match updA key v ck es with
        | some (es', fd) => fN (cond fd ck (Nat.succ ck)) fun ck' => h.putK f (.mp (.ents es') ck') fun h' => some (.val (.tuple []), h')
        | none => none) none
      | _, _ => none
    | _, _, _, _ => none
def oRange {P : Program} (gl : Gl P) (t : TypeId) (x : Operand) (tm : Tr AV) (h : AH) : Option (AN × AH) := match P.underlying t, aEval gl tm x with
    | some .string, some (.str l) => h.newK (.mp (.iter l) 0) fun f h' => some (.val (.ptr f 0 0), h')
    | _, _ => none
def oNext {P : Program} (gl : Gl P) (x : Operand) (b : Bool) (tm : Tr AV) (h : AH) : Option (AN × AH) := match b with
  | true => match aEval gl tm x with
    | some (.ptr f 0 0) => match h.get f with
      | some (.mp (.iter s) pos) => decA s pos (some (.val (.tuple [.bool false]), h)) fun c p =>
          h.putK f (.mp (.iter s) p) fun h' => some (.val (.tuple [.bool true, .int .i64 (.ofNat pos), .int .i32 (.ofNat c)]), h')
      | _ => none
    | _ => none
  | false => none
def oExtract {P : Program} (gl : Gl P) (x : Operand) (i : Nat) (tm : Tr AV) (h : AH) : Option (AN × AH) := match aEval gl tm x with
    | some (.tuple vs) => match dropL vs i with
      | v :: _ => some (.val v, h)
      | [] => none
    | _ => none
def oCall {P : Program} (gl : Gl P) (c : Call) (tm : Tr AV) (h : AH) : Option (AN × AH) := match mapEv gl tm c.args.toList with
    | none => none
    | some args => match c.callee with
      | .builtin b => aBuiltin P h b c.argTypes.toList args fun v h' => some (.val v, h')
      | .value f => match aEval gl tm f with
        | some (.func f first captured) => match gl.xt f with
          | (.succ kd, e) => appendK.appL first args fun l => appendK.appL l captured fun l => xtFun (.succ kd) e l h fun v h' => some (.val v, h')
          | (0, _) => cond (enterB P f) (appendK.appL first args fun l => appendK.appL l captured fun l => some (.enter f l, h)) none
        | _ => none
      | _ => none
/-- An operation, chosen by its text alone. -/
structure OpF where
  f : Tr AV → AH → Option (AN × AH)
def opSel {P : Program} (gl : Gl P) : Op → OpF
  | .move x => ⟨oMove gl x⟩
  | .assign x => ⟨oMove gl x⟩
  | .pick c a b => ⟨oPick gl c a b⟩
  | .alloc t => ⟨oAlloc gl t⟩
  | .box t x => ⟨oBox gl t x⟩
  | .build t parts => ⟨oBuild gl t parts⟩
  | .buildSlice t len parts => ⟨oBuildSlice gl t len parts⟩
  | .load t x => ⟨oLoad gl t x⟩
  | .store t x y => ⟨oStore gl t x y⟩
  | .nilCheck x => ⟨oNilCheck gl x⟩
  | .binOp op t x y _ => ⟨oBinOp gl op t x y⟩
  | .unOp op _ x => ⟨oUnOp gl op x⟩
  | .convert s d x => ⟨oConvert gl s d x⟩
  | .makeInterface t x => ⟨oMakeInterface gl t x⟩
  | .makeFunc fn first captured => ⟨oMakeFunc gl fn first captured⟩
  | .makeSlice t l c => ⟨oMakeSlice gl t l c⟩
  | .slice t x lo hi mx => ⟨oSlice gl t x lo hi mx⟩
  | .fieldAddr t x i => ⟨oFieldAddr gl t x i⟩
  | .field t x i => ⟨oField gl t x i⟩
  | .indexAddr t x i => ⟨oIndexAddr gl t x i⟩
  | .index t x i => ⟨oIndex gl t x i⟩
  | .makeMap t y => ⟨oMakeMap gl t y⟩
  | .lookup t x y ok => ⟨oLookup gl t x y ok⟩
  | .mapUpdate t x y z => ⟨oMapUpdate gl t x y z⟩
  | .insert t x y z => ⟨oMapUpdate gl t x y z⟩
  | .range t x => ⟨oRange gl t x⟩
  | .next x b => ⟨oNext gl x b⟩
  | .extract x i => ⟨oExtract gl x i⟩
  | .call c => ⟨oCall gl c⟩
  | _ => ⟨fun _ _ => none⟩
def aOp (P : Program) (gl : Gl P) (tm : Tr AV) (h : AH) (o : Oper) : Option (AN × AH) :=
  match opSel gl o.op with
  | ⟨f⟩ => f tm h

/-! ## Code -/
structure St where
  tm : Tr AV
  nt : Nat
  h : AH

inductive AX where
  | normal
  | exit (id : Nat)
  | ret

abbrev Rec := FuncId → List AV → AH → Option (AV × AH)

def putT {R : Type} (tm : Tr AV) (nt : Nat) (h : AH) (dst : Option Tmp) (v : AV) (k : Tr AV → Option R) : Option R :=
  match dst with
  | none => k tm
  | some d => cond (Nat.blt d nt) (tm.setK 40 d v k) none

/-- Is the operation wanted? none: it cannot be told. -/
def aWanted (ops : Array Oper) (tm : Tr AV) (nt : Nat) (o : Oper) : Bool :=
  match o.guard with
  | none => true
  | some (j, want) => match ops[j]? with
    | some oj => match oj.dst with
      | some d => match tm.get d with
        | some (.bool b) => cond (Nat.blt d nt) (cond b want (not want)) false
        | _ => false
      | none => false
    | none => false

/-- Is the slot that its guard looks at known? -/
def aKnown (ops : Array Oper) (tm : Tr AV) (o : Oper) : Bool :=
  match o.guard with
  | none => true
  | some (j, _) => match ops[j]? with
    | some oj => match oj.dst with
      | some d => match tm.get d with
        | some _ => true
        | none => false
      | none => true
    | none => true

/-- One operation, its result laid. -/
def aOne (P : Program) (gl : Gl P) (rec : Rec) (ops : Array Oper) (i : Nat) (st : St) : Option St :=
  match ops[i]?, st with
  | none, st => some st
  | some o, ⟨tm, nt, h⟩ => cond (aKnown ops tm o)
    (cond (aWanted ops tm nt o)
      (match aOp P gl tm h o with
      | some (.val v, h') => putT tm nt h' o.dst v fun tm' => some ⟨tm', nt, h'⟩
      | some (.enter f args, h') => match rec f args h' with
        | some (v, h2) => putT tm nt h2 o.dst v fun tm' => some ⟨tm', nt, h2⟩
        | none => none
      | none => none)
      (putT tm nt h o.dst (.tuple []) fun tm' => some ⟨tm', nt, h⟩)) none
def aOps (P : Program) (gl : Gl P) (rec : Rec) (ops : Array Oper) : Nat → Nat → St → Option St
  | 0, _, st => some st
  | .succ n, i, st => match aOne P gl rec ops i st with
    | some st' => aOps P gl rec ops n (Nat.succ i) st'
    | none => none

/-! ### A region that draws its order -/
/-- Is bit i of m clear? -/
def offB (m i : Nat) : Bool := Nat.beq (Nat.mod (Nat.shiftRight m i) 2) 0
def nthD : List Nat → Nat → Nat
  | [], _ => 0
  | a :: _, 0 => a
  | _ :: r, .succ n => nthD r n
/-- The operations ahead of one, by its edges (all of them ahead in the text), as a number of bits. none: an edge goes forward. -/
def ancOf (j : Nat) (ancs : List Nat) : List Edge → Option Nat
  | [] => some 0
  | e :: r => match ancOf j ancs r with
    | none => none
    | some m => cond (Region.binds .any e) (cond (Nat.blt e.on j) (some (Nat.lor m (Nat.lor (Nat.pow 2 e.on) (nthD ancs e.on)))) none) (some m)
def ancsOf : List Oper → Nat → List Nat → Option (List Nat)
  | [], _, ancs => some ancs
  | o :: r, j, ancs => match ancOf j ancs o.after.toList with
    | none => none
    | some m => fN m fun m => ancsOf r (Nat.succ j) (ancs ++ [m])
/-- Are i and j ordered? -/
def ordB (ancs : List Nat) (i j : Nat) : Bool := or (not (offB (nthD ancs i) j)) (not (offB (nthD ancs j) i))
/-- No operation looks at or writes a slot that an unordered one writes. -/
def tmpOk1 (ancs : List Nat) (ops : Array Oper) (j : Nat) (ts : List Tmp) : List Oper → Nat → Bool
  | [], _ => true
  | o :: r, i => cond (match o.dst with
      | none => true
      | some d => or (Nat.beq i j) (or (not (memN ts d)) (ordB ancs i j))) (tmpOk1 ancs ops j ts r (Nat.succ i)) false
def tmpOk (ancs : List Nat) (ops : Array Oper) : List Oper → Nat → Bool
  | [], _ => true
  | o :: r, j => cond (tmpOk1 ancs ops j (o.dst.toList ++ o.looksAt ops) ops.toList 0) (tmpOk ancs ops r (Nat.succ j)) false

structure Tc where
  i : Nat
  wl : List Nat
  lo : Nat
  hi : Nat
def singles : List Nat → List (Nat × Nat) → List (Nat × Nat)
  | [], l => l
  | a :: r, l => (a, Nat.succ a) :: singles r l
/-- What is hidden from operation j: what unordered ones ahead of it have touched, and what those behind it will write. -/
def hidFor (anc : Nat) : List Tc → List (Nat × Nat) → List (Nat × Nat)
  | [], l => l
  | ⟨i, wl, lo, hi⟩ :: r, l => cond (offB anc i) ((lo, hi) :: singles wl (hidFor anc r l)) (hidFor anc r l)
def extraFor (ancs : List Nat) (i : Nat) : List Tc → List (Nat × Nat) → List (Nat × Nat)
  | [], l => l
  | ⟨j, wl, _, _⟩ :: r, l => cond (and (Nat.blt i j) (offB (nthD ancs j) i)) (singles wl (extraFor ancs i r l)) (extraFor ancs i r l)
def allIn (U : List (Nat × Nat)) : List Nat → Bool
  | [] => true
  | a :: r => cond (inRanges U a) (allIn U r) false
/-- Operation j has written wl: is that hidden from every unordered one ahead of it? -/
def wlOk (ancs : List Nat) (ex : List Tc) (j : Nat) (wl : List Nat) : Nat → Bool
  | 0 => true
  | .succ i => cond (or (not (offB (nthD ancs j) i)) (allIn (extraFor ancs i ex []) wl)) (wlOk ancs ex j wl i) false
def mergeL (mark : Nat) : List Nat → List Nat → List Nat
  | [], l => l
  | a :: r, l => cond (and (Nat.blt a mark) (not (memN (mergeL mark r l) a))) (a :: mergeL mark r l) (mergeL mark r l)
def AH.hide (h : AH) (U : List (Nat × Nat)) : AH :=
  match h with
  | ⟨tr, next, _, _, hid⟩ => ⟨tr, next, next, [], U ++ hid⟩
def AH.show (h h' : AH) : AH :=
  match h, h' with
  | ⟨_, _, mark, wlog, hid⟩, ⟨tr, next, _, wl, _⟩ => ⟨tr, next, mark, mergeL mark wl wlog, hid⟩
def isNil : List Nat → Bool
  | [] => true
  | _ => false
def aDrawF (P : Program) (gl : Gl P) (rec : Rec) (ops : Array Oper) (ancs : List Nat) (ex : List Tc) : Nat → Nat → List Tc → St → Option (List Tc × St)
  | 0, _, ts, st => some (ts, st)
  | .succ n, j, ts, ⟨tm, nt, h⟩ =>
    match aOne P gl rec ops j ⟨tm, nt, h.hide (hidFor (nthD ancs j) ts (extraFor ancs j ex []))⟩ with
    | none => none
    | some ⟨tm', nt', h'⟩ =>
      cond (and (isNil h'.wlog) (Nat.beq h'.next h.next)) (aDrawF P gl rec ops ancs ex n (Nat.succ j) ts ⟨tm', nt', h.show h'⟩)
        (cond (or (isNil h'.wlog) (wlOk ancs ex j h'.wlog j)) (aDrawF P gl rec ops ancs ex n (Nat.succ j) (⟨j, h'.wlog, h.next, h'.next⟩ :: ts) ⟨tm', nt', h.show h'⟩) none)
/-- Loosely: what the operations write, in the text's order. -/
def aDry (P : Program) (gl : Gl P) (rec : Rec) (ops : Array Oper) : Nat → Nat → List Tc → St → List Tc
  | 0, _, ts, _ => ts
  | .succ n, j, ts, ⟨tm, nt, h⟩ =>
    match aOne P gl rec ops j ⟨tm, nt, h.hide []⟩ with
    | none => ts
    | some ⟨tm', nt', h'⟩ =>
      cond (isNil h'.wlog) (aDry P gl rec ops n (Nat.succ j) ts ⟨tm', nt', h.show h'⟩) (aDry P gl rec ops n (Nat.succ j) (⟨j, h'.wlog, 0, 0⟩ :: ts) ⟨tm', nt', h.show h'⟩)
def aDraw (P : Program) (gl : Gl P) (rec : Rec) (ops : Array Oper) (st : St) : Option St :=
  match ancsOf ops.toList 0 [] with
  | none => none
  | some ancs => cond (tmpOk ancs ops ops.toList 0) (match aDrawF P gl rec ops ancs [] ops.size 0 [] st with
      | some (_, st') => some st'
      | none => match aDrawF P gl rec ops ancs (aDry P gl rec ops ops.size 0 [] st) ops.size 0 [] st with
        | some (_, st') => some st'
        | none => none) none
def noSel : List Oper → Bool
  | [] => true
  | o :: r => match o.op with
    | .select _ _ => false
    | _ => noSel r

def cRegion {P : Program} (gl : Gl P) (ops : Array Oper) (draw : Bool) (rec : Rec) (self : Code → St → Option (AX × St)) (st : St) : Option (AX × St) :=
  cond draw (match aDraw P gl rec ops st with
    | some st' => some (.normal, st')
    | none => none) (match aOps P gl rec ops ops.size 0 st with
    | some st' => some (.normal, st')
    | none => none)
def cSeq (a b : Code) (rec : Rec) (self : Code → St → Option (AX × St)) (st : St) : Option (AX × St) :=
  match self a st with
  | some (.normal, st') => self b st'
  | some (x, st') => some (x, st')
  | none => none
def cCond {P : Program} (gl : Gl P) (c : Operand) (a b : Code) (rec : Rec) (self : Code → St → Option (AX × St)) (st : St) : Option (AX × St) :=
  match st with
  | ⟨tm, nt, h⟩ => match aEval gl tm c with
    | some (.bool true) => self a ⟨tm, nt, h⟩
    | some (.bool false) => self b ⟨tm, nt, h⟩
    | _ => none
def cBlock (id : Nat) (b : Code) (rec : Rec) (self : Code → St → Option (AX × St)) (st : St) : Option (AX × St) :=
  match self b st with
  | some (.exit j, st') => cond (Nat.beq j id) (some (.normal, st')) (some (.exit j, st'))
  | some (x, st') => some (x, st')
  | none => none
def cLoop (b : Code) (rec : Rec) (self : Code → St → Option (AX × St)) (st : St) : Option (AX × St) :=
  match self b st with
  | some (.normal, st') => self (.loop b) st'
  | some (x, st') => some (x, st')
  | none => none
/-- A piece of code, chosen by its text alone. -/
structure CodeS where
  f : Rec → (Code → St → Option (AX × St)) → St → Option (AX × St)
def cSel {P : Program} (gl : Gl P) : Code → CodeS
  | .skip => ⟨fun _ _ st => some (.normal, st)⟩
  | .label _ => ⟨fun _ _ st => some (.normal, st)⟩
  | .region _ ops draw => ⟨cRegion gl ops draw⟩
  | .seq a b => ⟨cSeq a b⟩
  | .cond c a b => ⟨cCond gl c a b⟩
  | .block id b => ⟨cBlock id b⟩
  | .loop b => ⟨cLoop b⟩
  | .scope b => ⟨fun _ self st => self b st⟩
  | .exit id => ⟨fun _ _ st => some (.exit id, st)⟩
  | .ret => ⟨fun _ _ st => some (.ret, st)⟩
  | _ => ⟨fun _ _ _ => none⟩
def aCodeF (P : Program) (gl : Gl P) (rec : Rec) (self : Code → St → Option (AX × St)) (c : Code) (st : St) : Option (AX × St) :=
  match cSel gl c with
  | ⟨f⟩ => f rec self st
def aCode (P : Program) (gl : Gl P) (rec : Rec) (fuel : Nat) : Code → St → Option (AX × St) :=
  Nat.rec (motive := fun _ => Code → St → Option (AX × St)) (fun _ _ => none) (fun _ ih => aCodeF P gl rec ih) fuel

def argTm : List AV → Nat → Tr AV → (Tr AV → Option (AV × AH)) → Option (AV × AH)
  | [], _, t, k => k t
  | a :: r, i, t, k => t.setK 40 i a fun t' => argTm r (Nat.succ i) t' k
def aRes (P : Program) (gl : Gl P) (tm : Tr AV) (h : AH) : List ResultVar → Option (List AV)
  | [] => some []
  | .tmp t :: r => match aEval gl tm (.tmp t), aRes P gl tm h r with
    | some v, some vs => some (v :: vs)
    | _, _ => none
  | .cell a t :: r => match aEval gl tm (.tmp a) with
    | some (.ptr f v o) => loadT P h t f v o fun x => match aRes P gl tm h r with
      | some vs => some (x :: vs)
      | none => none
    | _ => none
def initSt (fn : Func) (args : List AV) (h : AH) : Option St :=
  match argTm args 0 .lf fun tm => some (.tuple [], h) with
  | none => none
  | some _ => some ⟨(let rec go : List AV → Nat → Tr AV → Tr AV
      | [], _, t => t
      | a :: r, i, t => match t.setK 40 i a some with
        | some t' => go r (i+1) t'
        | none => t
    go args 0 .lf), max fn.ntmps args.length, h⟩
def aCallF (P : Program) (gl : Gl P) (over : FuncId → Option (List AV → AH → Option (AV × AH))) (fuel : Nat) (rec : Rec) (f : FuncId) (args : List AV) (h : AH) : Option (AV × AH) :=
  match over f with
  | some g => g args h
  | none => match P.funcs[f]? with
    | none => none
    | some fn => match fn.body with
      | none => none
      | some c => argTm args 0 .lf fun tm => fN (max fn.ntmps args.length) fun nt =>
        match aCode P gl rec fuel c ⟨tm, nt, h⟩ with
        | some (.exit _, _) => none
        | some (_, ⟨tm', _, h'⟩) => match aRes P gl tm' h' fn.results.toList with
          | some [v] => some (v, h')
          | some vs => some (.tuple vs, h')
          | none => none
        | none => none
def aCall (P : Program) (gl : Gl P) (over : FuncId → Option (List AV → AH → Option (AV × AH))) (fuel : Nat) : Rec :=
  Nat.rec (motive := fun _ => Rec) (fun _ _ _ => none) (fun _ ih => aCallF P gl over fuel ih) fuel
end
end Go.Proofs.YtcigfmnkfelhjaaDoor.Am
