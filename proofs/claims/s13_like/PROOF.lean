import PyProof.Rows.All
import KE.OsGo
import KE.OsArgs
import PySem.Challenge.RW_shorttextsdesk_s13_like
open PySem PySem.W
set_option Elab.async false
namespace My
/-! ## numbers from 0 on, bytes as whole numbers -/
def Nn (l : List Int) : Prop := ∀ x ∈ l, (0 : Int) ≤ x
def Bs (l : List Int) : Prop := ∀ x ∈ l, (0 : Int) ≤ x ∧ x ≤ 255
theorem Bs.nn {l : List Int} (h : Bs l) : Nn l := fun x hx => (h x hx).1
theorem Nn.take {l : List Int} (h : Nn l) (k : Nat) : Nn (l.take k) := fun x hx => h x (List.mem_of_mem_take hx)
theorem Nn.drop {l : List Int} (h : Nn l) (k : Nat) : Nn (l.drop k) := fun x hx => h x (List.mem_of_mem_drop hx)
theorem Nn.app {a b : List Int} (ha : Nn a) (hb : Nn b) : Nn (a ++ b) := fun x hx => (List.mem_append.1 hx).elim (ha x) (hb x)
theorem Nn.tail {a : Int} {l : List Int} (h : Nn (a :: l)) : Nn l := fun x hx => h x (List.mem_cons_of_mem _ hx)
theorem Nn.head {a : Int} {l : List Int} (h : Nn (a :: l)) : 0 ≤ a := h a List.mem_cons_self
theorem Bs.take {l : List Int} (h : Bs l) (k : Nat) : Bs (l.take k) := fun x hx => h x (List.mem_of_mem_take hx)
theorem Bs.drop {l : List Int} (h : Bs l) (k : Nat) : Bs (l.drop k) := fun x hx => h x (List.mem_of_mem_drop hx)
theorem Bs.tail {a : Int} {l : List Int} (h : Bs (a :: l)) : Bs l := fun x hx => h x (List.mem_cons_of_mem _ hx)
theorem Bs.head {a : Int} {l : List Int} (h : Bs (a :: l)) : 0 ≤ a ∧ a ≤ 255 := h a List.mem_cons_self
abbrev nz (l : List Int) : List Nat := Sv24Neutral.n l
theorem nz_nil : nz [] = [] := rfl
theorem nz_cons (a : Int) (l : List Int) : nz (a :: l) = a.toNat :: nz l := rfl
theorem nz_len (l : List Int) : (nz l).length = l.length := by simp [nz, Sv24Neutral.n]
theorem nz_back {l : List Int} (h : Nn l) : Sv24.numbers (nz l) = l := by
  induction l with
  | nil => rfl
  | cons a r ih =>
    have h2 := ih h.tail
    have h1 := h.head
    show ((a.toNat : Nat) : Int) :: Sv24.numbers (nz r) = _
    rw [h2, Int.toNat_of_nonneg h1]
theorem nz_app (a b : List Int) : nz a ++ nz b = nz (a ++ b) := by simp [nz, Sv24Neutral.n]
theorem nz_take (k : Nat) (a : List Int) : (nz a).take k = nz (a.take k) := by simp [nz, Sv24Neutral.n, List.map_take]
theorem nz_drop (k : Nat) (a : List Int) : (nz a).drop k = nz (a.drop k) := by simp [nz, Sv24Neutral.n, List.map_drop]
theorem nz_rev (a : List Int) : (nz a).reverse = nz a.reverse := by simp [nz, Sv24Neutral.n, List.map_reverse]
theorem nz_inj {a b : List Int} (ha : Nn a) (hb : Nn b) : nz a = nz b ↔ a = b :=
  ⟨fun h => by rw [← nz_back ha, ← nz_back hb, h], fun h => by rw [h]⟩
theorem nz_eqnil (a : List Int) : nz a = [] ↔ a = [] := by cases a <;> simp [nz, Sv24Neutral.n]
theorem nz_mem {l : List Int} (h : Nn l) {c : Int} (hc : 0 ≤ c) : c.toNat ∈ nz l ↔ c ∈ l := by
  constructor
  · intro hm
    obtain ⟨x, hx, he⟩ := List.mem_map.1 hm
    have := h x hx
    have : x = c := by omega
    exact this ▸ hx
  · intro hm
    exact List.mem_map.2 ⟨c, hm, rfl⟩
theorem nz_has {l : List Int} (h : Nn l) {c : Int} (hc : 0 ≤ c) : (nz l).contains c.toNat = l.contains c := by
  rw [Bool.eq_iff_iff, List.contains_iff_mem, List.contains_iff_mem, nz_mem h hc]
theorem nz_map {f : Nat → Nat} {g : Int → Int} : ∀ {l : List Int}, (∀ x ∈ l, f x.toNat = (g x).toNat) → (nz l).map f = nz (l.map g)
  | [], _ => rfl
  | a :: r, h => by
    rw [nz_cons, List.map_cons, List.map_cons, nz_cons, h a List.mem_cons_self, nz_map (fun x hx => h x (List.mem_cons_of_mem _ hx))]
theorem nz_filter {f : Nat → Bool} {g : Int → Bool} : ∀ {l : List Int}, (∀ x ∈ l, f x.toNat = g x) → (nz l).filter f = nz (l.filter g)
  | [], _ => rfl
  | a :: r, h => by
    rw [nz_cons, List.filter_cons, List.filter_cons, h a List.mem_cons_self, nz_filter (fun x hx => h x (List.mem_cons_of_mem _ hx))]
    split <;> rfl
theorem nz_dropWhile {f : Nat → Bool} {g : Int → Bool} : ∀ {l : List Int}, (∀ x ∈ l, f x.toNat = g x) → (nz l).dropWhile f = nz (l.dropWhile g)
  | [], _ => rfl
  | a :: r, h => by
    rw [nz_cons, List.dropWhile_cons, List.dropWhile_cons, h a List.mem_cons_self, nz_dropWhile (fun x hx => h x (List.mem_cons_of_mem _ hx))]
    split <;> rfl
/-- a text's answer -/
def tell (l : List Int) : List Int := ((l.take 31).length : Int) :: l.take 31
theorem told {l : List Int} (h : Nn l) : (Sv24.text (nz l)).v :: (Sv24.text (nz l)).l = tell l := by
  show (((Sv24.cut (nz l)).length : Nat) : Int) :: Sv24.numbers (Sv24.cut (nz l)) = _
  have e : Sv24.cut (nz l) = nz (l.take 31) := nz_take 31 l
  rw [e, nz_len, nz_back (h.take 31)]
  rfl
theorem tell_short {l : List Int} (h : l.length ≤ 31) : tell l = (l.length : Int) :: l := by
  unfold tell; rw [List.take_of_length_le h]
/-! ## the calls over whole numbers -/
theorem join_eq {a b : List Int} (ha : Nn a) (hb : Nn b) : PySv24.join a b = tell (a ++ b) := by
  show (Sv24.text (nz a ++ nz b)).v :: (Sv24.text (nz a ++ nz b)).l = _
  rw [nz_app]
  exact told (ha.app hb)
theorem part_eq {t : List Int} {i k : Int} (ht : Nn t) : PySv24.part i k t = tell ((t.drop (max i 0).toNat).take (max 0 (i + max k 0) - max i 0).toNat) := by
  show (Sv24.text (((nz t).drop (max i 0).toNat).take (max 0 (i + max k 0) - max i 0).toNat)).v :: (Sv24.text (((nz t).drop (max i 0).toNat).take (max 0 (i + max k 0) - max i 0).toNat)).l = _
  rw [nz_drop, nz_take]
  exact told ((ht.drop _).take _)
theorem turn_eq {t : List Int} (ht : Nn t) : PySv24.turn t = tell t.reverse := by
  show (Sv24.text (nz t).reverse).v :: (Sv24.text (nz t).reverse).l = _
  rw [nz_rev]
  exact told (fun x hx => ht x (List.mem_reverse.1 hx))
theorem only_eq {t s : List Int} {how : Int} (ht : Nn t) (hs : Nn s) : PySv24.only how t s = tell (t.filter fun c => s.contains c == decide (how = 0)) := by
  show (Sv24.text ((nz t).filter fun c => (nz s).contains c == decide (how = 0))).v :: (Sv24.text ((nz t).filter fun c => (nz s).contains c == decide (how = 0))).l = _
  rw [nz_filter (g := fun c => s.contains c == decide (how = 0)) (fun x hx => by rw [nz_has hs (ht x hx)])]
  exact told (fun x hx => ht x (List.mem_filter.1 hx).1)
theorem mask_go {s : List Int} (hs : Nn s) : ∀ {t : List Int}, Nn t → ((List.range t.length).map fun i => if (nz s).contains ((nz t).getD i 0) = true then 2 ^ i else 0) = ((List.range t.length).map fun i => if s.contains (t.getD i 0) = true then 2 ^ i else 0) := by
  intro t ht
  apply List.map_congr_left
  intro i hi
  have hi := List.mem_range.1 hi
  have e : (nz t).getD i 0 = (t.getD i 0).toNat := by
    simp [nz, Sv24Neutral.n, List.getD_eq_getElem?_getD, hi]
  have h0 : 0 ≤ t.getD i 0 := by
    rw [List.getD_eq_getElem?_getD, List.getElem?_eq_getElem hi]
    exact ht _ (List.getElem_mem hi)
  rw [e, nz_has hs h0]
/-- bits from the place k on -/
def bitsFrom (s : List Int) : Nat → List Int → Int
  | _, [] => 0
  | k, c :: r => (if s.contains c = true then (2 : Int) ^ k else 0) + bitsFrom s (k + 1) r
theorem bits_range (s : List Int) : ∀ (t : List Int) (k : Nat), bitsFrom s k t = ((((List.range t.length).map fun i => if s.contains (t.getD i 0) = true then 2 ^ (k + i) else 0).sum : Nat) : Int)
  | [], _ => rfl
  | c :: r, k => by
    have ih := bits_range s r (k + 1)
    rw [bitsFrom, ih, List.length_cons, List.range_succ_eq_map, List.map_cons, List.map_map, List.sum_cons, Int.natCast_add]
    congr 1
    · show _ = (((if s.contains c = true then 2 ^ (k + 0) else 0) : Nat) : Int)
      split <;> simp
    · congr 1
      apply congrArg
      apply List.map_congr_left
      intro i _
      show _ = if s.contains (r.getD i 0) = true then 2 ^ (k + (i + 1)) else 0
      rw [Nat.add_right_comm, Nat.add_assoc]
theorem mask_eq {t s : List Int} (ht : Nn t) (hs : Nn s) : PySv24.mask t s = [bitsFrom s 0 t] := by
  show [((Sv24.mask (nz t) (nz s) : Nat) : Int)] = _
  unfold Sv24.mask
  rw [nz_len, mask_go hs ht, bits_range]
  simp only [Nat.zero_add]
/-! ### case -/
def smallZ (c : Int) : Int := if 65 ≤ c ∧ c ≤ 90 then c + 32 else c
def capZ (c : Int) : Int := if 97 ≤ c ∧ c ≤ 122 then c - 32 else c
def otherZ (c : Int) : Int := if 65 ≤ c ∧ c ≤ 90 then c + 32 else capZ c
def letterZ (c : Int) : Bool := (decide (65 ≤ c) && decide (c ≤ 90)) || (decide (97 ≤ c) && decide (c ≤ 122))
theorem small_z {c : Int} (h : 0 ≤ c) : Sv24.small c.toNat = (smallZ c).toNat := by
  unfold Sv24.small smallZ; split <;> split <;> omega
theorem cap_z {c : Int} (h : 0 ≤ c) : Sv24.capital c.toNat = (capZ c).toNat := by
  unfold Sv24.capital capZ; split <;> split <;> omega
theorem other_z {c : Int} (h : 0 ≤ c) : (if 65 ≤ c.toNat ∧ c.toNat ≤ 90 then c.toNat + 32 else Sv24.capital c.toNat) = (otherZ c).toNat := by
  unfold otherZ; rw [cap_z h]; split <;> split <;> omega
theorem letter_z {c : Int} (h : 0 ≤ c) : Sv24.letter c.toNat = letterZ c := by
  unfold Sv24.letter letterZ
  have e1 : (65 ≤ c.toNat) = (65 ≤ c) := by apply propext; omega
  have e2 : (c.toNat ≤ 90) = (c ≤ 90) := by apply propext; omega
  have e3 : (97 ≤ c.toNat) = (97 ≤ c) := by apply propext; omega
  have e4 : (c.toNat ≤ 122) = (c ≤ 122) := by apply propext; omega
  simp only [e1, e2, e3, e4]
theorem small_nn {c : Int} (h : 0 ≤ c) : 0 ≤ smallZ c := by unfold smallZ; split <;> omega
theorem cap_nn {c : Int} (h : 0 ≤ c) : 0 ≤ capZ c := by unfold capZ; split <;> omega
theorem other_nn {c : Int} (h : 0 ≤ c) : 0 ≤ otherZ c := by unfold otherZ capZ; split <;> (try split) <;> omega
def titledZ : Bool → List Int → List Int
  | _, [] => []
  | b, c :: r => (if b = true then smallZ c else capZ c) :: titledZ (letterZ c) r
theorem titled_z : ∀ {l : List Int} {b : Bool}, Nn l → Sv24.titled b (nz l) = nz (titledZ b l) ∧ Nn (titledZ b l)
  | [], b, _ => ⟨by cases b <;> rfl, by cases b <;> exact fun x hx => (nomatch hx)⟩
  | c :: r, b, h => by
    obtain ⟨e, hn⟩ := titled_z (b := letterZ c) h.tail
    constructor
    · rw [nz_cons, Sv24.titled, titledZ, nz_cons, letter_z h.head, e, small_z h.head, cap_z h.head]
      cases b <;> rfl
    · intro x hx
      rw [titledZ] at hx
      rcases List.mem_cons.1 hx with rfl | hx
      · cases b
        · exact cap_nn h.head
        · exact small_nn h.head
      · exact hn x hx
def casedZ (how : Int) (t : List Int) : List Int := if how = 0 then t.map smallZ else if how = 1 then t.map capZ else if how = 2 then t.map otherZ else if how = 3 then titledZ false t else t
theorem nn_map {l : List Int} {g : Int → Int} (h : Nn l) (hg : ∀ c, 0 ≤ c → 0 ≤ g c) : Nn (l.map g) := by
  intro x hx
  obtain ⟨y, hy, rfl⟩ := List.mem_map.1 hx
  exact hg y (h y hy)
theorem cased_eq {how : Int} {t : List Int} (ht : Nn t) : PySv24.cased how t = tell (casedZ how t) := by
  show (Sv24.text (Sv24.cased (nz t) how)).v :: (Sv24.text (Sv24.cased (nz t) how)).l = _
  have e : Sv24.cased (nz t) how = nz (casedZ how t) ∧ Nn (casedZ how t) := by
    unfold Sv24.cased casedZ
    split
    · exact ⟨nz_map (fun x hx => small_z (ht x hx)), nn_map ht (fun c h => small_nn h)⟩
    · split
      · exact ⟨nz_map (fun x hx => cap_z (ht x hx)), nn_map ht (fun c h => cap_nn h)⟩
      · split
        · exact ⟨nz_map (fun x hx => other_z (ht x hx)), nn_map ht (fun c h => other_nn h)⟩
        · split
          · exact titled_z ht
          · exact ⟨rfl, ht⟩
  rw [e.1]
  exact told e.2
/-! ### trim -/
def trimZ (how : Int) (t s : List Int) : List Int :=
  let a := if how % 2 = 1 then t.dropWhile s.contains else t
  if how / 2 % 2 = 1 then (a.reverse.dropWhile s.contains).reverse else a
theorem nn_sub {a b : List Int} (h : Nn b) (hs : a.Sublist b) : Nn a := fun x hx => h x (hs.subset hx)
theorem trim_eq {how : Int} {t s : List Int} (ht : Nn t) (hs : Nn s) : PySv24.trim how t s = tell (trimZ how t s) := by
  show (Sv24.text (Sv24.trim (nz t) (nz s) how)).v :: (Sv24.text (Sv24.trim (nz t) (nz s) how)).l = _
  have hc : ∀ {l : List Int}, Nn l → (nz l).dropWhile (nz s).contains = nz (l.dropWhile s.contains) := fun h => nz_dropWhile (fun x hx => nz_has hs (h x hx))
  have e : Sv24.trim (nz t) (nz s) how = nz (trimZ how t s) ∧ Nn (trimZ how t s) := by
    unfold Sv24.trim trimZ
    have h1 : (if how % 2 = 1 then (nz t).dropWhile (nz s).contains else nz t) = nz (if how % 2 = 1 then t.dropWhile s.contains else t) := by
      split
      · exact hc ht
      · rfl
    have h2 : Nn (if how % 2 = 1 then t.dropWhile s.contains else t) := by
      split
      · exact nn_sub ht (List.dropWhile_sublist _)
      · exact ht
    dsimp only
    rw [h1]
    generalize (if how % 2 = 1 then t.dropWhile s.contains else t) = a at h2
    have h3 : Nn a.reverse := fun x hx => h2 x (List.mem_reverse.1 hx)
    split
    · rw [nz_rev, hc h3, nz_rev]
      exact ⟨rfl, fun x hx => nn_sub h3 (List.dropWhile_sublist _) x (List.mem_reverse.1 hx)⟩
    · exact ⟨rfl, h2⟩
  rw [e.1]
  exact told e.2
/-! ### compare -/
def beforeZ : List Int → List Int → Bool
  | a :: r, b :: s => decide (a < b) || (a == b && beforeZ r s)
  | [], _ :: _ => true
  | _, [] => false
theorem before_z : ∀ {a b : List Int}, Nn a → Nn b → Sv24.before (nz a) (nz b) = beforeZ a b
  | [], [], _, _ => rfl
  | [], _ :: _, _, _ => rfl
  | _ :: _, [], _, _ => rfl
  | x :: r, y :: s, ha, hb => by
    rw [nz_cons, nz_cons, Sv24.before, beforeZ, before_z ha.tail hb.tail]
    have h1 := ha.head
    have h2 := hb.head
    have e1 : (x.toNat < y.toNat) = (x < y) := by apply propext; omega
    have e2 : (x.toNat == y.toNat) = (x == y) := by rw [Bool.eq_iff_iff, beq_iff_eq, beq_iff_eq]; omega
    simp only [e1, e2]
def compareZ (how : Int) (a b : List Int) : Int :=
  let x := if how = 1 then a.map smallZ else a
  let y := if how = 1 then b.map smallZ else b
  if how ≠ 0 ∧ how ≠ 1 ∧ x.length ≠ y.length then (if x.length < y.length then -1 else 1) else if beforeZ x y = true then -1 else if beforeZ y x = true then 1 else 0
theorem compare_eq {how : Int} {a b : List Int} (ha : Nn a) (hb : Nn b) : PySv24.compare how a b = [compareZ how a b] := by
  show [Sv24.compare (nz a) (nz b) how] = _
  unfold Sv24.compare compareZ
  have h1 : ∀ {l : List Int}, Nn l → (if how = 1 then (nz l).map Sv24.small else nz l) = nz (if how = 1 then l.map smallZ else l) ∧ Nn (if how = 1 then l.map smallZ else l) := by
    intro l h
    split
    · exact ⟨nz_map (fun x hx => small_z (h x hx)), nn_map h (fun c h => small_nn h)⟩
    · exact ⟨rfl, h⟩
  dsimp only
  rw [(h1 ha).1, (h1 hb).1, nz_len, nz_len, before_z (h1 ha).2 (h1 hb).2, before_z (h1 hb).2 (h1 ha).2]
/-! ### pieces -/
def betweenZ : Nat → List Int → List Int → List Int → List (List Int)
  | 0, _, _, w => [w]
  | f + 1, t, p, w => match t with
    | [] => [w]
    | c :: r => if p.isPrefixOf t = true then w :: betweenZ f (t.drop p.length) p [] else betweenZ f r p (w ++ [c])
theorem prefix_z : ∀ {p t : List Int}, Nn p → Nn t → (nz p).isPrefixOf (nz t) = p.isPrefixOf t
  | [], _, _, _ => by rw [nz_nil, List.isPrefixOf, List.isPrefixOf]
  | _ :: _, [], _, _ => rfl
  | x :: r, y :: s, hp, ht => by
    rw [nz_cons, nz_cons, List.isPrefixOf, List.isPrefixOf, prefix_z hp.tail ht.tail]
    have h1 := hp.head
    have h2 := ht.head
    have e2 : (x.toNat == y.toNat) = (x == y) := by rw [Bool.eq_iff_iff, beq_iff_eq, beq_iff_eq]; omega
    rw [e2]
theorem nn_one {c : Int} (h : 0 ≤ c) : Nn [c] := fun x hx => by rcases List.mem_singleton.1 hx with rfl; exact h
theorem between_z : ∀ (f : Nat) {t p w : List Int}, Nn t → Nn p → Nn w → Sv24.between f (nz t) (nz p) (nz w) = (betweenZ f t p w).map nz ∧ ∀ x ∈ betweenZ f t p w, Nn x
  | 0, t, p, w, _, _, hw => by
    rw [Sv24.between, betweenZ]
    exact ⟨rfl, fun _ hx => by rcases List.mem_singleton.1 hx with rfl; exact hw⟩
  | f + 1, [], p, w, _, _, hw => by
    rw [nz_nil, Sv24.between, betweenZ]
    exact ⟨rfl, fun x hx => by rcases List.mem_singleton.1 hx with rfl; exact hw⟩
  | f + 1, c :: r, p, w, ht, hp, hw => by
    have e1 := between_z f (ht.drop p.length) hp (w := []) (fun x hx => (nomatch hx))
    have e2 := between_z f ht.tail hp (hw.app (nn_one ht.head))
    rw [nz_cons, Sv24.between, betweenZ, ← nz_cons, prefix_z hp ht]
    split
    · constructor
      · rw [nz_len, nz_drop, List.map_cons, ← e1.1]; rfl
      · intro x hx
        rcases List.mem_cons.1 hx with rfl | hx
        · exact hw
        · exact e1.2 x hx
    · constructor
      · rw [← e2.1, ← nz_app]; rfl
      · exact e2.2
def countZ (t p : List Int) : Int := if p = [] then (t.length : Int) + 1 else (((betweenZ (t.length + 1) t p []).length - 1 : Nat) : Int)
theorem nn_nil : Nn [] := fun x hx => (nomatch hx)
theorem count_eq {t p : List Int} (ht : Nn t) (hp : Nn p) : PySv24.count t p = [countZ t p] := by
  show [((Sv24.count (nz t) (nz p) : Nat) : Int)] = _
  unfold Sv24.count countZ
  simp only [nz_eqnil, nz_len]
  have e := (between_z (t.length + 1) ht hp nn_nil).1
  rw [nz_nil] at e
  rw [e, List.length_map]
  split
  · rw [Int.natCast_add]; rfl
  · rfl
def replaceZ (t p r : List Int) : List Int := if p = [] then t else r.intercalate (betweenZ (t.length + 1) t p [])
theorem nz_flat : ∀ (l : List (List Int)), (l.map nz).flatten = nz l.flatten
  | [] => rfl
  | a :: r => by rw [List.map_cons, List.flatten_cons, List.flatten_cons, nz_flat r, nz_app]
theorem nz_inter (r : List Int) : ∀ (l : List (List Int)), List.intersperse (nz r) (l.map nz) = (List.intersperse r l).map nz
  | [] => rfl
  | [_] => rfl
  | a :: b :: l => by
    have ih := nz_inter r (b :: l)
    rw [List.map_cons] at ih
    rw [List.map_cons, List.map_cons, List.intersperse_cons_cons, List.intersperse_cons_cons, ih]
    rfl
theorem nz_sep (r : List Int) : ∀ (l : List (List Int)), (nz r).intercalate (l.map nz) = nz (r.intercalate l) := by
  intro l
  unfold List.intercalate
  rw [← nz_flat, nz_inter]
theorem mem_sep {x : Int} {r : List Int} {l : List (List Int)} (h : x ∈ r.intercalate l) : x ∈ r ∨ ∃ y ∈ l, x ∈ y := by
  unfold List.intercalate at h
  obtain ⟨y, hy, hx⟩ := List.mem_flatten.1 h
  induction l with
  | nil => cases hy
  | cons a l ih =>
    cases l with
    | nil =>
      rw [List.intersperse_singleton] at hy
      rcases List.mem_singleton.1 hy with rfl
      exact .inr ⟨y, List.mem_cons_self, hx⟩
    | cons b l =>
      rw [List.intersperse_cons_cons] at hy
      rcases List.mem_cons.1 hy with rfl | hy
      · exact .inr ⟨y, List.mem_cons_self, hx⟩
      · rcases List.mem_cons.1 hy with rfl | hy
        · exact .inl hx
        · have h2 : x ∈ (List.intersperse r (b :: l)).flatten := List.mem_flatten.2 ⟨y, hy, hx⟩
          rcases ih h2 hy with h3 | ⟨z, hz, hxz⟩
          · exact .inl h3
          · exact .inr ⟨z, List.mem_cons_of_mem _ hz, hxz⟩
theorem replace_eq {t p r : List Int} (ht : Nn t) (hp : Nn p) (hr : Nn r) : PySv24.replace t p r = tell (replaceZ t p r) := by
  show (Sv24.text (Sv24.replace (nz t) (nz p) (nz r))).v :: (Sv24.text (Sv24.replace (nz t) (nz p) (nz r))).l = _
  have e := between_z (t.length + 1) ht hp nn_nil
  rw [nz_nil] at e
  have e2 : Sv24.replace (nz t) (nz p) (nz r) = nz (replaceZ t p r) ∧ Nn (replaceZ t p r) := by
    unfold Sv24.replace replaceZ
    simp only [nz_eqnil, nz_len]
    split
    · exact ⟨rfl, ht⟩
    · rw [e.1, nz_sep]
      refine ⟨rfl, fun x hx => ?_⟩
      rcases mem_sep hx with h | ⟨y, hy, h⟩
      · exact hr x h
      · exact e.2 y hy x h
  rw [e2.1]
  exact told e2.2
end My

namespace My
/-! ## digits, over whole numbers -/
def digZ (d : Int) : Int := if d < 10 then 48 + d else 87 + d
theorem dig_z {d : Nat} : ((Sv24.digit d : Nat) : Int) = digZ (d : Int) := by
  unfold Sv24.digit digZ; split <;> split <;> omega
/-- the digits of n, the highest first -/
theorem digits_step {f base n : Nat} (_ : 2 ≤ base) (_ : n < base ^ (f + 1)) :
    Sv24.digits (f + 1) base n = if n < base then [Sv24.digit n] else Sv24.digits f base (n / base) ++ [Sv24.digit (n % base)] := rfl
theorem digits_fuel : ∀ {f g base n : Nat}, 2 ≤ base → n < base ^ f → n < base ^ g → 0 < f → 0 < g → Sv24.digits f base n = Sv24.digits g base n
  | 0, _, _, _, _, _, _, h, _ => by omega
  | _ + 1, 0, _, _, _, _, _, _, h => by omega
  | f + 1, g + 1, base, n, h2, hf, hg, _, _ => by
    rw [digits_step h2 hf, digits_step h2 hg]
    split
    · rfl
    · rename_i hn
      have hd : ∀ {k : Nat}, n < base ^ (k + 1) → n / base < base ^ k := by
        intro k hk
        rw [Nat.pow_succ] at hk
        exact Nat.div_lt_of_lt_mul (by rw [Nat.mul_comm]; exact hk)
      have hpos : ∀ {k : Nat}, n < base ^ (k + 1) → 0 < k := by
        intro k hk
        cases k with
        | zero => exact absurd (by simpa using hk) hn
        | succ k => omega
      rw [digits_fuel h2 (hd hf) (hd hg) (hpos hf) (hpos hg)]
theorem pow_le_64 {base : Nat} (h : 2 ≤ base) : 2 ^ 64 ≤ base ^ 64 := Nat.pow_le_pow_left h 64
/-- the digits with enough room for any long -/
def digs (base n : Nat) : List Nat := Sv24.digits 65 base n
theorem digs_eq {base n : Nat} (h2 : 2 ≤ base) (hn : n < 2 ^ 64) : digs base n = if n < base then [Sv24.digit n] else digs base (n / base) ++ [Sv24.digit (n % base)] := by
  have h64 : n < base ^ 64 := Nat.lt_of_lt_of_le hn (pow_le_64 h2)
  have h65 : n < base ^ (64 + 1) := Nat.lt_of_lt_of_le h64 (Nat.pow_le_pow_right (by omega) (by omega))
  unfold digs
  rw [digits_step h2 h65]
  split
  · rfl
  · rename_i h
    have hd : n / base < base ^ 64 := Nat.lt_of_le_of_lt (Nat.div_le_self _ _) h64
    rw [digits_fuel (g := 65) h2 hd (Nat.lt_of_lt_of_le hd (Nat.pow_le_pow_right (by omega) (by omega))) (by omega) (by omega)]
/-! ## numbers read -/
def worthZ (c : Int) : Int := if 48 ≤ c ∧ c ≤ 57 then c - 48 else if 97 ≤ c ∧ c ≤ 122 then c - 87 else if 65 ≤ c ∧ c ≤ 90 then c - 55 else -1
theorem worth_z {c : Int} (h : 0 ≤ c) : Sv24.digitOf c.toNat = if worthZ c < 0 then none else some (worthZ c).toNat := by
  have e0 : worthZ c = if 48 ≤ c ∧ c ≤ 57 then c - 48 else if 97 ≤ c ∧ c ≤ 122 then c - 87 else if 65 ≤ c ∧ c ≤ 90 then c - 55 else -1 := rfl
  generalize worthZ c = w at e0
  unfold Sv24.digitOf
  split
  · rw [if_pos (by omega)] at e0
    rw [if_neg (by omega)]
    congr 1; omega
  · rw [if_neg (by omega)] at e0
    split
    · rw [if_pos (by omega)] at e0
      rw [if_neg (by omega)]
      congr 1; omega
    · rw [if_neg (by omega)] at e0
      split
      · rw [if_pos (by omega)] at e0
        rw [if_neg (by omega)]
        congr 1; omega
      · rw [if_neg (by omega)] at e0
        rw [if_pos (by omega)]
theorem worth_lo {c : Int} : -1 ≤ worthZ c ∧ worthZ c ≤ 35 := by
  unfold worthZ; split <;> (try split) <;> (try split) <;> omega
/-- digits read from n on -/
def readZ (base : Int) : Int → List Int → Option Int
  | n, [] => some n
  | n, c :: r => if 0 ≤ worthZ c ∧ worthZ c < base then readZ base (base * n + worthZ c) r else none
theorem read_z {base : Int} (hb : 0 ≤ base) : ∀ {l : List Int} {n : Nat}, (∀ x ∈ l, (0 : Int) ≤ x) →
    (((l.map Int.toNat).mapM fun c => (Sv24.digitOf c).bind fun x => if x < base.toNat then some x else none).map fun l => ((l.foldl (fun n x => base.toNat * n + x) n : Nat) : Int)) = readZ base (n : Int) l
  | [], n, _ => rfl
  | c :: r, n, h => by
    have ih := fun m => read_z hb (l := r) (n := m) (fun x hx => h x (List.mem_cons_of_mem _ hx))
    have hc := h c List.mem_cons_self
    rw [List.map_cons, List.mapM_cons, worth_z hc, readZ]
    by_cases hw : worthZ c < 0
    · rw [if_pos hw, if_neg (by omega)]; rfl
    · rw [if_neg hw]
      by_cases hw2 : worthZ c < base
      · rw [if_pos (by omega)]
        have e : (Option.some (worthZ c).toNat).bind (fun x => if x < base.toNat then some x else none) = some (worthZ c).toNat := by
          show (if (worthZ c).toNat < base.toNat then some (worthZ c).toNat else none) = _
          rw [if_pos (by omega)]
        rw [e]
        have e2 := ih (base.toNat * n + (worthZ c).toNat)
        have e3 : ((base.toNat * n + (worthZ c).toNat : Nat) : Int) = base * (n : Int) + worthZ c := by
          rw [Int.natCast_add, Int.natCast_mul, Int.toNat_of_nonneg hb, Int.toNat_of_nonneg (by omega)]
        rw [e3] at e2
        rw [← e2]
        simp only [Option.pure_def, Option.bind_eq_bind, Option.bind_some]
        cases ((r.map Int.toNat).mapM fun c => (Sv24.digitOf c).bind fun x => if x < base.toNat then some x else none) <;> rfl
      · rw [if_neg (by omega)]
        have e : (Option.some (worthZ c).toNat).bind (fun x => if x < base.toNat then some x else none) = none := by
          show (if (worthZ c).toNat < base.toNat then some (worthZ c).toNat else none) = _
          rw [if_neg (by omega)]
        rw [e]; rfl
end My

namespace My
/-- one byte that fits, then a pattern -/
def stepM (fits : Nat → Bool) (k : List Nat → Bool) : List Nat → Bool
  | [] => false
  | d :: r => fits d && k r
/-- matching, told by the pattern -/
def mt : Nat → List Nat → List Nat → Bool
  | 0, _, t => t.isEmpty
  | f + 1, p, t => match p with
    | [] => t.isEmpty
    | 42 :: q => (List.range (t.length + 1)).any fun i => mt f q (t.drop i)
    | 63 :: q => stepM (fun _ => true) (mt f q) t
    | 92 :: c :: q => stepM (fun d => d == c) (mt f q) t
    | c :: q => stepM (fun d => d == c) (mt f q) t
theorem spread_len : ∀ (m : List Bool) (b : Bool), (Sv24.spread b m).length = m.length
  | [], _ => rfl
  | x :: r, b => by rw [Sv24.spread, List.length_cons, List.length_cons, spread_len r]
theorem spread_at : ∀ (m : List Bool) (b : Bool) (i : Nat), i < m.length → ((Sv24.spread b m).getD i false = true ↔ b = true ∨ ∃ j, j ≤ i ∧ m.getD j false = true)
  | [], _, _, h => by simp at h
  | x :: r, b, 0, _ => by
    rw [Sv24.spread]
    show (b || x) = true ↔ _
    rw [Bool.or_eq_true]
    constructor
    · rintro (h | h)
      · exact .inl h
      · exact .inr ⟨0, Nat.le_refl _, h⟩
    · rintro (h | ⟨j, hj, h⟩)
      · exact .inl h
      · have : j = 0 := by omega
        subst this
        exact .inr h
  | x :: r, b, i + 1, h => by
    rw [Sv24.spread]
    show (Sv24.spread (b || x) r).getD i false = true ↔ _
    rw [spread_at r (b || x) i (by simpa using h), Bool.or_eq_true]
    constructor
    · rintro ((h | h) | ⟨j, hj, h⟩)
      · exact .inl h
      · exact .inr ⟨0, by omega, h⟩
      · exact .inr ⟨j + 1, by omega, h⟩
    · rintro (h | ⟨j, hj, h⟩)
      · exact .inl (.inl h)
      · cases j with
        | zero => exact .inl (.inr h)
        | succ j => exact .inr ⟨j, by omega, h⟩
theorem onward_len {fits : Nat → Bool} {t : List Nat} {m : List Bool} (h : m.length = t.length + 1) : (Sv24.onward fits t m).length = t.length + 1 := by
  unfold Sv24.onward
  rw [List.length_cons, List.length_map, List.length_zip, h]
  omega
theorem onward_at {fits : Nat → Bool} {t : List Nat} {m : List Bool} (h : m.length = t.length + 1) (i : Nat) :
    (Sv24.onward fits t m).getD (i + 1) false = true ↔ ∃ d, t[i]? = some d ∧ m.getD i false = true ∧ fits d = true := by
  unfold Sv24.onward
  rw [List.getD_cons_succ, List.getD_eq_getElem?_getD, List.getElem?_map]
  cases ht : t[i]? with
  | none =>
    have : (t.zip m)[i]? = none := by
      rw [List.getElem?_eq_none_iff] at ht ⊢
      rw [List.length_zip]; omega
    rw [this]
    simp
  | some d =>
    have hi : i < t.length := (List.getElem?_eq_some_iff.1 ht).1
    have hm : m[i]? = some (m.getD i false) := by
      rw [List.getD_eq_getElem?_getD, List.getElem?_eq_getElem (by omega)]; rfl
    have : (t.zip m)[i]? = some (d, m.getD i false) := List.getElem?_zip_eq_some.2 ⟨ht, hm⟩
    rw [this]
    simp
/-- some marked place from which the pattern goes to the end -/
def Reach (t : List Nat) (m : List Bool) (k : List Nat → Bool) : Prop := ∃ i, i ≤ t.length ∧ m.getD i false = true ∧ k (t.drop i) = true
theorem reach_step {fits : Nat → Bool} {t : List Nat} {m : List Bool} {k : List Nat → Bool} (h : m.length = t.length + 1) :
    Reach t (Sv24.onward fits t m) k ↔ Reach t m (stepM fits k) := by
  constructor
  · rintro ⟨i, hi, h1, h2⟩
    cases i with
    | zero => simp [Sv24.onward] at h1
    | succ i =>
      obtain ⟨d, hd, hm, hf⟩ := (onward_at h i).1 h1
      refine ⟨i, by omega, hm, ?_⟩
      obtain ⟨hl, he⟩ := List.getElem?_eq_some_iff.1 hd
      rw [List.drop_eq_getElem_cons hl, he, stepM, hf, h2]; rfl
  · rintro ⟨i, hi, hm, h2⟩
    by_cases hl : i < t.length
    · rw [List.drop_eq_getElem_cons hl, stepM, Bool.and_eq_true] at h2
      exact ⟨i + 1, by omega, (onward_at h i).2 ⟨t[i], List.getElem?_eq_getElem hl, hm, h2.1⟩, h2.2⟩
    · rw [List.drop_of_length_le (by omega), stepM] at h2
      cases h2
theorem reach_star {t : List Nat} {m : List Bool} {k : List Nat → Bool} (h : m.length = t.length + 1) :
    Reach t (Sv24.spread false m) k ↔ Reach t m (fun u => (List.range (u.length + 1)).any fun i => k (u.drop i)) := by
  constructor
  · rintro ⟨i, hi, h1, h2⟩
    rcases (spread_at m false i (by omega)).1 h1 with h0 | ⟨j, hj, hm⟩
    · cases h0
    · refine ⟨j, by omega, hm, List.any_eq_true.2 ⟨i - j, List.mem_range.2 (by rw [List.length_drop]; omega), ?_⟩⟩
      rw [List.drop_drop]
      have e : j + (i - j) = i := by omega
      rw [e]; exact h2
  · rintro ⟨j, hj, hm, h2⟩
    obtain ⟨i, hi, h2⟩ := List.any_eq_true.1 h2
    rw [List.mem_range, List.length_drop] at hi
    rw [List.drop_drop] at h2
    exact ⟨j + i, by omega, (spread_at m false (j + i) (by omega)).2 (.inr ⟨j, by omega, hm⟩), h2⟩
theorem reach_end {t : List Nat} {m : List Bool} (h : m.length = t.length + 1) : m.getLastD false = true ↔ Reach t m List.isEmpty := by
  have e : m.getLastD false = m.getD t.length false := by
    cases m with
    | nil => simp at h
    | cons x r =>
      rw [List.getLastD_cons, List.getD_eq_getElem?_getD]
      rw [List.length_cons] at h
      have h' : r.length = t.length := by omega
      rw [← h', List.getLastD_eq_getLast?]
      cases r with
      | nil => rfl
      | cons y s =>
        rw [List.getLast?_eq_getElem?]
        simp
  rw [e]
  constructor
  · intro hm
    exact ⟨t.length, Nat.le_refl _, hm, by rw [List.drop_length]; rfl⟩
  · rintro ⟨i, hi, hm, h2⟩
    have : t.drop i = [] := List.isEmpty_iff.1 h2
    have := List.drop_eq_nil_iff.1 this
    have e : i = t.length := by omega
    exact e ▸ hm
theorem like_from {t : List Nat} : ∀ (f : Nat) (p : List Nat) (m : List Bool), m.length = t.length + 1 → p.length ≤ f →
    ((Sv24.likeFrom t f p m).getLastD false = true ↔ Reach t m (mt f p))
  | 0, p, m, h, hp => by
    rw [Sv24.likeFrom]
    have : p = [] := List.eq_nil_of_length_eq_zero (by omega)
    exact reach_end h
  | f + 1, p, m, h, hp => by
    unfold Sv24.likeFrom
    have hmt : mt (f + 1) p = fun t => mt (f + 1) p t := rfl
    rw [hmt]
    simp only [mt]
    split
    · exact reach_end h
    · rename_i q
      rw [like_from f q _ (by rw [spread_len, h]) (by simpa using hp)]
      exact reach_star h
    · rename_i q
      rw [like_from f q _ (onward_len h) (by simpa using hp)]
      exact reach_step h
    · rename_i c q
      rw [like_from f q _ (onward_len h) (by simp only [List.length_cons] at hp; omega)]
      exact reach_step h
    · rename_i c q n1 n2 n3
      rw [like_from f q _ (onward_len h) (by simpa using hp)]
      have e : (fun t => match c :: q with
          | [] => t.isEmpty
          | 42 :: q => (List.range (t.length + 1)).any fun i => mt f q (t.drop i)
          | 63 :: q => stepM (fun _ => true) (mt f q) t
          | 92 :: c :: q => stepM (fun d => d == c) (mt f q) t
          | c :: q => stepM (fun d => d == c) (mt f q) t) = stepM (fun d => d == c) (mt f q) := by
        funext u
        split
        · rename_i e; cases e
        · rename_i e; cases e; exact absurd rfl n1
        · rename_i e; cases e; exact absurd rfl n2
        · rename_i e; cases e; exact (n3 _ _ rfl rfl).elim
        · rename_i e; cases e; rfl
      rw [e]
      exact reach_step h
theorem like_mt (p t : List Nat) : Sv24.like p t = mt p.length p t := by
  rw [Bool.eq_iff_iff]
  unfold Sv24.like
  rw [like_from p.length p _ (by simp) (Nat.le_refl _)]
  constructor
  · rintro ⟨i, hi, hm, h⟩
    cases i with
    | zero => exact h
    | succ i =>
      exfalso
      rw [List.getD_cons_succ, List.getD_eq_getElem?_getD, List.getElem?_map] at hm
      cases hx : t[i]? with
      | none => rw [hx] at hm; cases hm
      | some d => rw [hx] at hm; cases hm
  · intro h
    exact ⟨0, Nat.zero_le _, rfl, h⟩
end My

namespace My
/-! ## hexadecimal -/
def hexZ (t : List Int) : List Int := t.flatMap fun c => [digZ (c / 16), digZ (c % 16)]
theorem digZ_nn {d : Int} (h : 0 ≤ d) : 0 ≤ digZ d := by unfold digZ; split <;> omega
theorem dig_nz {d : Int} (h : 0 ≤ d) : Sv24.digit d.toNat = (digZ d).toNat := by
  unfold Sv24.digit digZ; split <;> split <;> omega
theorem hex_z : ∀ {t : List Int}, Nn t → Sv24.hex (nz t) = nz (hexZ t) ∧ Nn (hexZ t)
  | [], _ => ⟨rfl, nn_nil⟩
  | c :: r, h => by
    obtain ⟨e, hn⟩ := hex_z h.tail
    have hc := h.head
    unfold Sv24.hex hexZ at *
    rw [nz_cons, List.flatMap_cons, List.flatMap_cons, e, ← nz_app]
    have h1 : 0 ≤ c / 16 := Int.ediv_nonneg hc (by decide)
    have h2 : 0 ≤ c % 16 := Int.emod_nonneg _ (by decide)
    refine ⟨?_, Nn.app ?_ hn⟩
    · show [Sv24.digit (c.toNat / 16), Sv24.digit (c.toNat % 16)] ++ _ = [(digZ (c / 16)).toNat, (digZ (c % 16)).toNat] ++ _
      rw [← dig_nz h1, ← dig_nz h2]
      have e1 : c.toNat / 16 = (c / 16).toNat := by omega
      have e2 : c.toNat % 16 = (c % 16).toNat := by omega
      rw [e1, e2]
    · intro x hx
      rcases List.mem_cons.1 hx with rfl | hx
      · exact digZ_nn h1
      · rcases List.mem_singleton.1 hx with rfl
        exact digZ_nn h2
theorem hex_eq {t : List Int} (ht : Nn t) : PySv24.hex_of t = tell (hexZ t) := by
  show (Sv24.text (Sv24.hex (nz t))).v :: (Sv24.text (Sv24.hex (nz t))).l = _
  rw [(hex_z ht).1]
  exact told (hex_z ht).2
def unhexZ : List Int → Option (List Int)
  | [] => some []
  | [_] => none
  | a :: b :: r => if (0 ≤ worthZ a ∧ worthZ a < 16) ∧ (0 ≤ worthZ b ∧ worthZ b < 16) then (unhexZ r).map fun l => (16 * worthZ a + worthZ b) :: l else none
theorem unhex_z : ∀ {t : List Int}, Nn t → Sv24.unhex (nz t) = (unhexZ t).map nz ∧ ∀ l, unhexZ t = some l → Nn l
  | [], _ => ⟨rfl, fun l h => by cases h; exact nn_nil⟩
  | [_], _ => ⟨rfl, fun l h => by cases h⟩
  | a :: b :: r, h => by
    obtain ⟨e, hn⟩ := unhex_z h.tail.tail
    have ha := h.head
    have hb := h.tail.head
    rw [nz_cons, nz_cons, Sv24.unhex, unhexZ, worth_z ha, worth_z hb, e]
    by_cases h1 : worthZ a < 0
    · rw [if_pos h1, if_neg (show ¬((0 ≤ worthZ a ∧ worthZ a < 16) ∧ (0 ≤ worthZ b ∧ worthZ b < 16)) by omega)]
      exact ⟨rfl, fun l h => by cases h⟩
    · rw [if_neg h1]
      by_cases h2 : worthZ b < 0
      · rw [if_pos h2, if_neg (show ¬((0 ≤ worthZ a ∧ worthZ a < 16) ∧ (0 ≤ worthZ b ∧ worthZ b < 16)) by omega)]
        exact ⟨rfl, fun l h => by cases h⟩
      · rw [if_neg h2]
        show ((if 16 ≤ (worthZ a).toNat ∨ 16 ≤ (worthZ b).toNat then none else (Option.map nz (unhexZ r)).map fun l => (16 * (worthZ a).toNat + (worthZ b).toNat) :: l) = _) ∧ _
        by_cases h3 : worthZ a < 16 ∧ worthZ b < 16
        · rw [if_neg (by omega), if_pos (by omega)]
          cases hr : unhexZ r with
          | none => exact ⟨rfl, fun l h => by cases h⟩
          | some l =>
            refine ⟨?_, fun l' h' => ?_⟩
            · show some ((16 * (worthZ a).toNat + (worthZ b).toNat) :: nz l) = some (nz ((16 * worthZ a + worthZ b) :: l))
              rw [nz_cons]
              congr 2
              omega
            · have : (16 * worthZ a + worthZ b) :: l = l' := Option.some.inj h'
              subst this
              intro x hx
              rcases List.mem_cons.1 hx with rfl | hx
              · omega
              · exact hn l hr x hx
        · rw [if_pos (by omega), if_neg (by omega)]
          exact ⟨rfl, fun l h => by cases h⟩
theorem unhex_eq {t : List Int} (ht : Nn t) : PySv24.unhex t = tell ((unhexZ t).getD []) := by
  show (Sv24.text ((Sv24.unhex (nz t)).getD [])).v :: (Sv24.text ((Sv24.unhex (nz t)).getD [])).l = _
  obtain ⟨e, hn⟩ := unhex_z ht
  rw [e]
  cases hr : unhexZ t with
  | none => exact told (l := []) nn_nil
  | some l => exact told (l := l) (hn l hr)
/-! ## several texts -/
def tells (l : List (List Int)) : List Int := (l.length : Int) :: l.flatMap fun b => (b.length : Int) :: b
theorem texts_z : ∀ {l : List (List Int)}, (∀ x ∈ l, Nn x) → (Sv24.texts (l.map nz)).v :: (Sv24.texts (l.map nz)).l = tells l := by
  intro l h
  show (((l.map nz).length : Nat) : Int) :: ((l.map nz).flatMap fun b => ((b.length : Nat) : Int) :: Sv24.numbers b) = _
  unfold tells
  rw [List.length_map, List.flatMap_map]
  congr 1
  induction l with
  | nil => rfl
  | cons a r ih =>
    rw [List.flatMap_cons, List.flatMap_cons, ih (fun x hx => h x (List.mem_cons_of_mem _ hx)), nz_len, nz_back (h a List.mem_cons_self)]
theorem split_eq {c : Int} {t : List Int} (ht : Nn t) : PySv24.split c t = if c < 0 ∨ 255 < c then [-2] else tells (betweenZ (t.length + 1) t [c] []) := by
  show (let y := (if c < 0 ∨ 255 < c then Sv24.ok (-2) else Sv24.texts (Sv24.split (nz t) c.toNat)); y.v :: y.l) = _
  split
  · rfl
  · have hc : 0 ≤ c := by omega
    have e := between_z (t.length + 1) ht (nn_one hc) nn_nil
    have e2 : Sv24.split (nz t) c.toNat = (betweenZ (t.length + 1) t [c] []).map nz := by
      unfold Sv24.split
      rw [nz_len]
      exact e.1
    dsimp only
    rw [e2]
    exact texts_z e.2
theorem merge_nz : ∀ {l r : List (List Int)}, (∀ x ∈ l, Nn x) → (∀ x ∈ r, Nn x) →
    List.merge (l.map nz) (r.map nz) (fun a b => !Sv24.before b a) = (List.merge l r (fun a b => !beforeZ b a)).map nz := by
  intro l r hl hr
  rw [List.map_merge]
  intro a ha b hb
  rw [before_z (hr b hb) (hl a ha)]
theorem sort_z {rows : List (List Int)} (h : ∀ x ∈ rows, Nn x) : (rows.map nz).mergeSort (fun a b => !Sv24.before b a) = (rows.mergeSort (fun a b => !beforeZ b a)).map nz := by
  rw [List.map_mergeSort]
  intro a ha b hb
  rw [before_z (h b hb) (h a ha)]
theorem sort_eq {rows : List (List Int)} (h : ∀ x ∈ rows, Nn x) : PySv24.sort rows = tells (rows.mergeSort (fun a b => !beforeZ b a)) := by
  show (Sv24.texts ((rows.map nz).mergeSort (fun a b => !Sv24.before b a))).v :: (Sv24.texts ((rows.map nz).mergeSort (fun a b => !Sv24.before b a))).l = _
  rw [sort_z h]
  exact texts_z (fun x hx => h x (List.mem_mergeSort.1 hx))
/-! ## numbers -/
def numberZ (base : Int) (t : List Int) : List Int :=
  if base < 2 ∨ 36 < base then [-2] else
  let d := if t.head? = some 45 ∨ t.head? = some 43 then t.drop 1 else t
  if d = [] then [-3] else
  match readZ base 0 d with
  | none => [-3]
  | some n => let z := if t.head? = some 45 then -n else n
    if z < -(2 ^ 63) ∨ 2 ^ 63 ≤ z then [-7] else [0, z]
theorem head_z {t : List Int} (ht : Nn t) {k : Nat} : ((nz t).head? = some k) ↔ t.head? = some (k : Int) := by
  cases t with
  | nil => simp [nz, Sv24Neutral.n]
  | cons a r =>
    have := ht.head
    simp only [nz_cons, List.head?_cons, Option.some.injEq]
    omega
theorem number_eq {base : Int} {t : List Int} (ht : Nn t) : PySv24.number base t = numberZ base t := by
  show (let y := (if base < 2 ∨ 36 < base then Sv24.ok (-2) else (match Sv24.number (nz t) base.toNat with
    | none => Sv24.ok (-3)
    | some z => if z < -(2 ^ 63) ∨ 2 ^ 63 ≤ z then Sv24.ok (-7) else ⟨0, [z]⟩)); y.v :: y.l) = _
  unfold numberZ
  by_cases hb : base < 2 ∨ 36 < base
  · rw [if_pos hb, if_pos hb]; rfl
  · rw [if_neg hb, if_neg hb]
    have hneg : ((nz t).head? == some 45) = decide (t.head? = some 45) := by
      rw [Bool.eq_iff_iff, beq_iff_eq, decide_eq_true_eq, head_z ht]; rfl
    have hpos : ((nz t).head? = some 43) = (t.head? = some 43) := propext (head_z ht)
    have e : Sv24.number (nz t) base.toNat = (let d := if t.head? = some 45 ∨ t.head? = some 43 then t.drop 1 else t
        if d = [] then none else (readZ base 0 d).map fun n => if t.head? = some 45 then -n else n) := by
      unfold Sv24.number
      dsimp only
      rw [hneg]
      simp only [decide_eq_true_eq, hpos]
      have e1 : (if t.head? = some 45 ∨ t.head? = some 43 then (nz t).drop 1 else nz t) = nz (if t.head? = some 45 ∨ t.head? = some 43 then t.drop 1 else t) := by
        split
        · exact nz_drop 1 t
        · rfl
      rw [e1]
      have hn : Nn (if t.head? = some 45 ∨ t.head? = some 43 then t.drop 1 else t) := by
        split
        · exact ht.drop 1
        · exact ht
      generalize (if t.head? = some 45 ∨ t.head? = some 43 then t.drop 1 else t) = d at hn
      simp only [nz_eqnil]
      split
      · rfl
      · rw [show (0 : Int) = ((0 : Nat) : Int) from rfl, ← read_z (by omega) hn, Option.map_map]
        rfl
    rw [e]
    dsimp only
    generalize (if t.head? = some 45 ∨ t.head? = some 43 then t.drop 1 else t) = d
    by_cases hd : d = []
    · rw [if_pos hd, if_pos hd]; rfl
    · rw [if_neg hd, if_neg hd]
      cases readZ base 0 d with
      | none => rfl
      | some n =>
        show (let y := (if (if t.head? = some 45 then -n else n) < -(2 ^ 63) ∨ 2 ^ 63 ≤ (if t.head? = some 45 then -n else n) then Sv24.ok (-7) else ⟨0, [if t.head? = some 45 then -n else n]⟩); y.v :: y.l) = _
        dsimp only
        split <;> split <;> rfl
theorem nz_numbers (l : List Nat) : nz (Sv24.numbers l) = l := by
  unfold nz Sv24Neutral.n Sv24.numbers
  rw [List.map_map]
  conv => rhs; rw [← List.map_id l]
  rfl
theorem nn_numbers (l : List Nat) : Nn (Sv24.numbers l) := by
  intro x hx
  obtain ⟨y, _, rfl⟩ := List.mem_map.1 hx
  exact Int.natCast_nonneg y
theorem text_told (l : List Nat) : (Sv24.text l).v :: (Sv24.text l).l = tell (Sv24.numbers l) := by
  have := told (nn_numbers l)
  rw [nz_numbers] at this
  exact this
theorem digits_eq {v base : Int} : PySv24.digits v base = tell (if base < 2 ∨ 36 < base then [] else (if v < 0 then [45] else []) ++ Sv24.numbers (digs base.toNat v.natAbs)) := by
  show (Sv24.text (if base < 2 ∨ 36 < base then [] else Sv24.written v base.toNat)).v :: (Sv24.text (if base < 2 ∨ 36 < base then [] else Sv24.written v base.toNat)).l = _
  rw [text_told]
  congr 1
  split
  · rfl
  · unfold Sv24.written digs Sv24.numbers
    rw [List.map_append]
    congr 1
    split <;> rfl
theorem hash_eq {t : List Int} : PySv24.hash_of t = [((Sv24.hash (nz t) : Nat) : Int)] := rfl
theorem like_eq {t p : List Int} : PySv24.like t p = [if mt p.length (nz p) (nz t) = true then 1 else 0] := by
  show [(if Sv24.like (nz p) (nz t) = true then 1 else 0 : Int)] = _
  rw [like_mt, nz_len]
end My

namespace My
/-! ## patterns as the program reads and follows them -/
def askZ : List Int → List Int
  | [] => []
  | [c] => [if c = 92 then 92 else if c = 63 then 256 else if c = 42 then 257 else c]
  | c :: d :: q => if c = 92 then d :: askZ q else (if c = 63 then 256 else if c = 42 then 257 else c) :: askZ (d :: q)
theorem askZ_nil : askZ [] = [] := rfl
theorem askZ_esc {d : Int} {q : List Int} : askZ (92 :: d :: q) = d :: askZ q := by rw [askZ, if_pos rfl]
theorem askZ_last : askZ [92] = [92] := rfl
theorem askZ_cons {c : Int} {r : List Int} (h : ¬ c = 92) : askZ (c :: r) = (if c = 63 then 256 else if c = 42 then 257 else c) :: askZ r := by
  cases r with
  | nil =>
    show [if c = 92 then 92 else if c = 63 then 256 else if c = 42 then 257 else c] = _
    rw [if_neg h, askZ_nil]
  | cons d q => rw [askZ, if_neg h]
/-- one thing asked for, over the marks of a text -/
def stepE (t : List Int) (m : List Bool) (a : Int) : List Bool :=
  if a = 257 then (List.range m.length).map (fun i => (m.take (i + 1)).contains true) else false :: ((t.zip m).map fun x => x.2 && (a == 256 || a == x.1))
theorem spread_range : ∀ (m : List Bool) (b : Bool), Sv24.spread b m = (List.range m.length).map (fun i => b || (m.take (i + 1)).contains true)
  | [], _ => rfl
  | x :: r, b => by
    rw [Sv24.spread, spread_range r, List.length_cons, List.range_succ_eq_map, List.map_cons, List.map_map]
    congr 1
    · cases b <;> cases x <;> rfl
    · apply List.map_congr_left
      intro i _
      simp only [Function.comp, List.take_succ_cons, List.contains_cons]
      cases b <;> cases x <;> simp
theorem step_star {t : List Int} {m : List Bool} : stepE t m 257 = Sv24.spread false m := by
  unfold stepE
  rw [if_pos rfl, spread_range]
  simp
theorem onward_zip {t : List Int} (ht : Bs t) {m : List Bool} {f : Nat → Bool} {a : Int} (h : ∀ x ∈ t, (a == 256 || a == x) = f x.toNat) :
    (false :: ((t.zip m).map fun x => x.2 && (a == 256 || a == x.1))) = Sv24.onward f (nz t) m := by
  unfold Sv24.onward
  congr 1
  induction t generalizing m with
  | nil => rfl
  | cons x r ih =>
    cases m with
    | nil => rfl
    | cons y q =>
      rw [nz_cons, List.zip_cons_cons, List.zip_cons_cons, List.map_cons, List.map_cons, ih ht.tail (fun z hz => h z (List.mem_cons_of_mem _ hz)), h x List.mem_cons_self]
theorem step_any {t : List Int} (ht : Bs t) {m : List Bool} : stepE t m 256 = Sv24.onward (fun _ => true) (nz t) m := by
  unfold stepE
  rw [if_neg (by decide)]
  exact onward_zip ht fun x _ => by simp
theorem step_byte {t : List Int} (ht : Bs t) {m : List Bool} {c : Int} (hc : 0 ≤ c ∧ c ≤ 255) : stepE t m c = Sv24.onward (fun d => d == c.toNat) (nz t) m := by
  unfold stepE
  rw [if_neg (by omega)]
  refine onward_zip ht fun x hx => ?_
  have := ht x hx
  rw [Bool.eq_iff_iff]
  simp only [Bool.or_eq_true, beq_iff_eq]
  omega
theorem like_fold {t : List Int} (ht : Bs t) : ∀ (f : Nat) (p : List Int) (m : List Bool), Bs p → p.length ≤ f → Sv24.likeFrom (nz t) f (nz p) m = (askZ p).foldl (stepE t) m
  | 0, p, m, _, hl => by
    have : p = [] := List.eq_nil_of_length_eq_zero (by omega)
    subst this
    rfl
  | f + 1, [], m, _, _ => rfl
  | f + 1, c :: r, m, hp, hl => by
    have hc := hp.head
    have hl' : r.length ≤ f := by simpa using hl
    have ihr := fun m' => like_fold ht f r m' hp.tail hl'
    rw [nz_cons]
    by_cases h92 : c = 92
    · subst h92
      cases r with
      | nil =>
        show Sv24.likeFrom (nz t) f (nz []) (Sv24.onward (fun d => d == 92) (nz t) m) = _
        rw [like_fold ht f [] _ (fun x hx => (nomatch hx)) (Nat.zero_le _)]
        show Sv24.onward (fun d => d == 92) (nz t) m = stepE t m 92
        exact (step_byte ht (by omega)).symm
      | cons d q =>
        have hd := hp.tail.head
        show Sv24.likeFrom (nz t) f (nz q) (Sv24.onward (fun z => z == d.toNat) (nz t) m) = _
        rw [like_fold ht f q _ hp.tail.tail (by simp only [List.length_cons] at hl'; omega), askZ_esc, List.foldl_cons, step_byte ht hd]
    · rw [askZ_cons h92]
      by_cases h63 : c = 63
      · subst h63
        rw [if_pos rfl, List.foldl_cons, step_any ht]
        exact ihr _
      · rw [if_neg h63]
        by_cases h42 : c = 42
        · subst h42
          rw [if_pos rfl, List.foldl_cons, step_star]
          exact ihr _
        · rw [if_neg h42, List.foldl_cons, step_byte ht hc, ← ihr]
          have n1 : c.toNat ≠ 42 := by omega
          have n2 : c.toNat ≠ 63 := by omega
          have n3 : c.toNat ≠ 92 := by omega
          generalize c.toNat = k at n1 n2 n3
          rw [Sv24.likeFrom]
          · exact fun h => n1 h
          · exact fun h => n2 h
          · exact fun _ _ h _ => n3 h
theorem like_end {t p : List Int} (ht : Bs t) (hp : Bs p) : PySv24.like t p = [if ((askZ p).foldl (stepE t) (true :: t.map fun _ => false)).getLastD false = true then 1 else 0] := by
  show [(if Sv24.like (nz p) (nz t) = true then 1 else 0 : Int)] = _
  unfold Sv24.like
  have e : (true :: (nz t).map fun _ => false) = true :: t.map fun _ => false := by simp [nz, Sv24Neutral.n]
  rw [e, like_fold ht _ p _ hp (by rw [nz_len]; exact Nat.le_refl _)]
/-! ## the pattern's reading, place by place -/
structure AskI (p asked : List Int) (place : Int) : Prop where
  eq : askZ p = asked ++ askZ (p.drop place.toNat)
theorem ask_start {p : List Int} : AskI p [] 0 := ⟨rfl⟩
theorem drop_get {p : List Int} {i : Int} (h0 : 0 ≤ i) (h : i < (p.length : Int)) : p.drop i.toNat = p.getD i.toNat 0 :: p.drop (i + 1).toNat := by
  have e : (i + 1).toNat = i.toNat + 1 := by omega
  have hl : i.toNat < p.length := by omega
  rw [List.drop_eq_getElem_cons hl, e, List.getD_eq_getElem?_getD, List.getElem?_eq_getElem hl]
  rfl
theorem ask_esc {p asked : List Int} {i : Int} (I : AskI p asked i) (h0 : 0 ≤ i) (h : i + 1 < (p.length : Int)) (hb : p.getD i.toNat 0 = 92) : AskI p (asked ++ [p.getD (i + 1).toNat 0]) (i + 1 + 1) := ⟨by
  rw [I.eq, drop_get h0 (by omega), drop_get (i := i + 1) (by omega) (by omega), hb, askZ_esc, List.append_assoc]
  rfl⟩
theorem ask_any {p asked : List Int} {i : Int} (I : AskI p asked i) (h0 : 0 ≤ i) (h : i < (p.length : Int)) (hb : p.getD i.toNat 0 = 63) : AskI p (asked ++ [256]) (i + 1) := ⟨by
  rw [I.eq, drop_get h0 h, askZ_cons (by omega), if_pos hb, List.append_assoc]
  rfl⟩
theorem ask_run {p asked : List Int} {i : Int} (I : AskI p asked i) (h0 : 0 ≤ i) (h : i < (p.length : Int)) (hb : p.getD i.toNat 0 = 42) : AskI p (asked ++ [257]) (i + 1) := ⟨by
  rw [I.eq, drop_get h0 h, askZ_cons (by omega), if_neg (by omega), if_pos hb, List.append_assoc]
  rfl⟩
theorem ask_byte {p asked : List Int} {i : Int} (I : AskI p asked i) (h0 : 0 ≤ i) (h : i < (p.length : Int)) (h1 : ¬ p.getD i.toNat 0 = 63) (h2 : ¬ p.getD i.toNat 0 = 42) (h3 : ¬ p.getD i.toNat 0 = 92 ∨ ¬ i + 1 < (p.length : Int)) :
    AskI p (asked ++ [p.getD i.toNat 0]) (i + 1) := ⟨by
  rw [I.eq, drop_get h0 h, List.append_assoc]
  congr 1
  by_cases h92 : p.getD i.toNat 0 = 92
  · have hn : ¬ i + 1 < (p.length : Int) := h3.resolve_left fun q => q h92
    have e : p.drop (i + 1).toNat = [] := List.drop_of_length_le (by omega)
    rw [e, h92]
    rfl
  · rw [askZ_cons h92, if_neg h1, if_neg h2]
    rfl⟩
theorem ask_done {p asked : List Int} {i : Int} (I : AskI p asked i) (h : ¬ i < (p.length : Int)) : asked = askZ p := by
  rw [I.eq, List.drop_of_length_le (by omega), askZ_nil, List.append_nil]
end My

open PySem PySem.W
open PySem.Calls PyProof.Rows LSm
/-! ## lists of truth values put together -/
namespace My
theorem bo_add {prog : Program} {w : World} {A : Around} {E : Value → Shared → Prop} {s : Shared} {h₀ : Heap} {L a b : Addr} {m : Str → Option Value} {news : List (Addr × Obj)} {vs ws : List Value} {bs cs : List Bool} {Q : Value → Shared → Prop}
    (F : Fr h₀ L s.heap m) (N : News h₀ L s.heap news) (ha : s.heap.IsList a vs.toArray) (hb : s.heap.IsList b ws.toArray) (hi : BoolsAre vs bs) (hj : BoolsAre ws cs)
    (hz : bs.length + cs.length ≤ sizeLine)
    (h : ∀ D us h', Fr h₀ L h' m → News h₀ L h' ((D, listOf (List.toArray us) 0) :: news) → (∀ p ∈ news, p.1 < D) → BoolsAre us (bs ++ cs) → Q (.ref D) { s with heap := h' }) :
    wpAny (model prog w) A (binaryOp .Add (.ref a) (.ref b)) Q E s := by
  refine kmk_add_lit F N ha hb rfl (fun D h' F' N' l1 => h D _ h' F' N' l1 ?_) ?_
  · exact kbo_app hi hj
  · show vs.length + ws.length ≤ sizeLine
    rw [hi.length, hj.length]
    exact hz
end My

/- for x in xs, where a turn changes objects of the ledger and no name but x: told by what holds of the ledger -/
namespace My
section
open PySem PySem.W PySem.Calls PyProof.Rows PySem.Spec
abbrev Led := List (Addr × Obj)
def LpEnd (h₀ : Heap) (L : Addr) (x : Str) (m₀ : Str → Option Value) (I : Addr) (it : Obj) (Jn : Led → Prop) (s₁ s₂ : Shared) : Prop :=
  ∃ h' tk m' news', s₂ = { s₁ with heap := h', toks := tk } ∧ Fr h₀ L h' m' ∧ News h₀ L h' ((I, it) :: news') ∧ (∀ p ∈ news', p.1 ≠ I) ∧ (∀ z, z ≠ x → m' z = m₀ z) ∧ Jn news'
def LpPost (h₀ : Heap) (L : Addr) (x : Str) (m₀ : Str → Option Value) (I : Addr) (it : Obj) (Jn : Led → Prop) (s₁ : Shared) (Q : Flow → Shared → Prop) (f : Flow) (s₂ : Shared) : Prop :=
  match f with
  | .ret v => Q (.ret v) s₂
  | .brk => Q .next s₂
  | _ => LpEnd h₀ L x m₀ I it Jn s₁ s₂
theorem LpEnd.intro {h₀ h' : Heap} {L I : Addr} {x : Str} {m₀ m' : Str → Option Value} {it : Obj} {Jn : Led → Prop} {s₁ : Shared} {tk : Nat} {all : Led} (news' : Led)
    (F : Fr h₀ L h' m') (N : News h₀ L h' all) (hI : (I, it) ∈ all) (hn : ∀ p ∈ news', p ∈ all) (ho : ∀ p ∈ news', p.1 ≠ I) (e : ∀ z, z ≠ x → m' z = m₀ z) (hj : Jn news') :
    LpEnd h₀ L x m₀ I it Jn s₁ { s₁ with heap := h', toks := tk } :=
  ⟨h', tk, m', news', rfl, F, fun p hq => by
    rcases List.mem_cons.mp hq with rfl | hq
    · exact N _ hI
    · exact N p (hn p hq), ho, e, hj⟩
theorem lpPost_next {h₀ : Heap} {L I : Addr} {x : Str} {m₀ : Str → Option Value} {it : Obj} {Jn : Led → Prop} {s₁ s₂ : Shared} {Q : Flow → Shared → Prop}
    (h : LpEnd h₀ L x m₀ I it Jn s₁ s₂) : LpPost h₀ L x m₀ I it Jn s₁ Q .next s₂ := h
variable {prog : Program} {w : World} {A : Around} {E : Value → Shared → Prop} {s : Shared} {env : Env} {h₀ : Heap} {x : Str} {body : List Stmt} {Q : Flow → Shared → Prop}
theorem lp_map {m₀ m₁ : Str → Option Value} {v : Option Value} (h : ∀ z, z ≠ x → m₁ z = m₀ z) : (fun y => if y = x then v else m₁ y) = fun y => if y = x then v else m₀ y := by
  funext y
  by_cases e : y = x
  · rw [if_pos e, if_pos e]
  · rw [if_neg e, if_neg e, h y e]
theorem lp_any {l : Addr} {vs : List Value} {m₀ : Str → Option Value} {news₀ : Led} (J : Nat → Led → Prop)
    (hh : A.handled = none) (F : Fr h₀ env.locals s.heap m₀) (N : News h₀ env.locals s.heap news₀) (hls : s.heap.IsList l vs.toArray) (hlL : l ≠ env.locals)
    (hl : (∃ o, h₀.get? l = some o) ∨ ∃ o : Obj, ∀ i news, J i news → (l, o) ∈ news) (hJ : J 0 news₀)
    (turn : ∀ i v news₁ h tk I it, vs[i]? = some v → J i news₁ → it.cls = .type "list_iterator" → (∀ p ∈ news₁, p.1 ≠ I) →
      Fr h₀ env.locals h (fun y => if y = x then some v else m₀ y) → News h₀ env.locals h ((I, it) :: news₁) →
      wpAny (model prog w) A (execs body env) (LpPost h₀ env.locals x m₀ I it (J (i + 1)) { s with heap := h, toks := tk } Q) E { s with heap := h, toks := tk })
    (done : ∀ (u : Str → Option Value) news₁ h tk, J vs.length news₁ → Fr h₀ env.locals h (fun y => if y = x then u y else m₀ y) → News h₀ env.locals h news₁ → Q .next { s with heap := h, toks := tk }) :
    wpAny (model prog w) A (pyIter (.ref l)) (fun it s₂ => LoopAtV prog w A h₀ env x body Q E it s₂) E s := by
  have hlt : l < s.heap.objs.size := by obtain ⟨_, e, _⟩ := hls; exact Heap.lt_size e
  have hne : l ≠ s.heap.objs.size := Nat.ne_of_lt hlt
  refine wpAny_pyIter_list hls ?_
  have W := Walks.list (prog := prog) (w := w) hh s.heap.objs.size l hne vs.toArray
  have hlen : vs.toArray.size = vs.length := by simp
  rw [hlen] at W
  refine ⟨_, _, _, vs.length, _, _, m₀, news₀, (fun i m nx => (∀ z, z ≠ x → m z = m₀ z) ∧ J i nx), rfl, W, ?_, ?_, ?_, ⟨⟨_, Heap.get?_push_size _ rfl, rfl, rfl⟩, hls.at fun o e => Heap.get?_push_of_some _ e⟩, F.push _, (fun p hp => ⟨Heap.get?_push_of_some _ (N p hp).1, (N p hp).2⟩),
    ⟨fun _ _ => rfl, hJ⟩, ?_, ?_⟩
  · intro hm
    rcases List.mem_cons.mp hm with e | hm
    · exact absurd F.ns.lt (e ▸ Nat.lt_irrefl _)
    · exact hlL (List.mem_singleton.mp hm).symm
  · intro b hb
    rw [List.mem_singleton.mp hb]
    exact next_is_new F
  · intro p hp hI
    exact absurd (Heap.lt_size (N p hp).1) ((List.mem_singleton.mp hI) ▸ Nat.lt_irrefl _)
  · rintro i v m₁ news₁ s₁ own ⟨hh', tk', rfl⟩ hin hP ⟨f3, hj₁⟩ hoff hown hget hfp hst F₁ N₁
    obtain ⟨it, hit, hic, _⟩ := hst.1
    have hIown : (s.heap.objs.size, it) ∈ own := hfp _ List.mem_cons_self (next_is_new F) it hit
    have N₂ : News h₀ env.locals hh' ((s.heap.objs.size, it) :: news₁) := fun p hp => by
      rcases List.mem_cons.mp hp with rfl | hp
      · exact N₁ _ (List.mem_append_left _ hIown)
      · exact N₁ _ (List.mem_append_right _ hp)
    have hoff' : ∀ p ∈ news₁, p.1 ≠ s.heap.objs.size := fun p hp q => hoff p hp (List.mem_singleton.mpr q)
    refine wpAny_mono (turn i v news₁ hh' tk' s.heap.objs.size it (by simpa using hP) hj₁ hic hoff' (by rw [← lp_map f3]; exact F₁) N₂) (fun f s₂ p => ?_) fun _ _ e => e
    have fin : LpEnd h₀ env.locals x m₀ s.heap.objs.size it (J (i + 1)) { s with heap := hh', toks := tk' } s₂ →
        LoopStepU h₀ env.locals [s.heap.objs.size] own (fun m nx => (∀ z, z ≠ x → m z = m₀ z) ∧ J (i + 1) nx) { s with heap := hh', toks := tk' } .next s₂ := by
      rintro ⟨h', tk, m', news', e', F', N', ho', g3, hp'⟩
      refine ⟨rfl, h', tk, m', news', e', F', fun p hp => ?_, fun p hp q => ho' p hp (List.mem_singleton.mp q), g3, hp'⟩
      rcases List.mem_append.mp hp with h | h
      · have h2 : hh'.get? p.1 = some p.2 := hget p h
        rcases List.mem_cons.mp (hown p h) with h1 | h1
        · rw [h1, hit] at h2
          have h3 : p = (s.heap.objs.size, it) := Prod.ext h1 (Option.some.inj h2).symm
          rw [h3]
          exact N' _ List.mem_cons_self
        · have h1 := List.mem_singleton.mp h1
          have z := (N₁ p (List.mem_append_left _ h)).2.2
          rcases hl with ⟨o, ho⟩ | ⟨o, ho⟩
          · rw [h1, ho] at z
            cases z
          · have y1 := (N₂ _ (List.mem_cons_of_mem _ (ho i news₁ hj₁))).1
            have y1 : hh'.get? l = some o := y1
            rw [h1, y1] at h2
            have h3 : p = (l, o) := Prod.ext h1 (Option.some.inj h2).symm
            rw [h3]
            exact N' _ (List.mem_cons_of_mem _ (ho (i + 1) news' hp'))
      · exact N' p (List.mem_cons_of_mem _ h)
    cases f with
    | ret v => exact .ret p
    | brk => exact .brk p
    | next => exact .next (fin p)
    | cont => exact .cont (fin p)
  · rintro h' tk m' news' F' N' _ ⟨f3, hj₁⟩
    refine done m' news' h' tk hj₁ ?_ N'
    have em : (fun y => if y = x then m' y else m₀ y) = m' := by
      funext y
      by_cases e : y = x
      · rw [if_pos e]
      · rw [if_neg e, f3 y e]
    rw [em]
    exact F'
theorem lp_base {l : Addr} {vs : List Value} {m₀ : Str → Option Value} {news₀ : Led} (J : Nat → Led → Prop)
    (hh : A.handled = none) (F : Fr h₀ env.locals s.heap m₀) (N : News h₀ env.locals s.heap news₀) (hl : h₀.IsList l vs.toArray) (hJ : J 0 news₀)
    (turn : ∀ i v news₁ h tk I it, vs[i]? = some v → J i news₁ → it.cls = .type "list_iterator" → (∀ p ∈ news₁, p.1 ≠ I) →
      Fr h₀ env.locals h (fun y => if y = x then some v else m₀ y) → News h₀ env.locals h ((I, it) :: news₁) →
      wpAny (model prog w) A (execs body env) (LpPost h₀ env.locals x m₀ I it (J (i + 1)) { s with heap := h, toks := tk } Q) E { s with heap := h, toks := tk })
    (done : ∀ (u : Str → Option Value) news₁ h tk, J vs.length news₁ → Fr h₀ env.locals h (fun y => if y = x then u y else m₀ y) → News h₀ env.locals h news₁ → Q .next { s with heap := h, toks := tk }) :
    wpAny (model prog w) A (pyIter (.ref l)) (fun it s₂ => LoopAtV prog w A h₀ env x body Q E it s₂) E s := by
  obtain ⟨o, ho, _⟩ := id hl
  have hlL : l ≠ env.locals := fun e => absurd (Heap.lt_size ho) (by rw [e]; exact Nat.not_lt.mpr F.above)
  exact lp_any J hh F N (hl.at fun o e => F.keep l o e) hlL (.inl ⟨o, ho⟩) hJ turn done
theorem lp_made {l : Addr} {vs : List Value} {nn : Nat} {m₀ : Str → Option Value} {news₀ : Led} (J : Nat → Led → Prop)
    (hh : A.handled = none) (F : Fr h₀ env.locals s.heap m₀) (N : News h₀ env.locals s.heap news₀) (hl : ∀ i news, J i news → (l, listOf (List.toArray vs) nn) ∈ news) (hJ : J 0 news₀)
    (turn : ∀ i v news₁ h tk I it, vs[i]? = some v → J i news₁ → it.cls = .type "list_iterator" → (∀ p ∈ news₁, p.1 ≠ I) →
      Fr h₀ env.locals h (fun y => if y = x then some v else m₀ y) → News h₀ env.locals h ((I, it) :: news₁) →
      wpAny (model prog w) A (execs body env) (LpPost h₀ env.locals x m₀ I it (J (i + 1)) { s with heap := h, toks := tk } Q) E { s with heap := h, toks := tk })
    (done : ∀ (u : Str → Option Value) news₁ h tk, J vs.length news₁ → Fr h₀ env.locals h (fun y => if y = x then u y else m₀ y) → News h₀ env.locals h news₁ → Q .next { s with heap := h, toks := tk }) :
    wpAny (model prog w) A (pyIter (.ref l)) (fun it s₂ => LoopAtV prog w A h₀ env x body Q E it s₂) E s := by
  have hm := N _ (hl 0 news₀ hJ)
  exact lp_any J hh F N ⟨_, hm.1, rfl, nn, rfl⟩ hm.2.1 (.inr ⟨_, hl⟩) hJ turn done
end
end My

/- for x in xs, xs made by the program, where a turn changes objects of the ledger and no local name (x itself and what is bound anew are cells) -/
namespace My
section
open PySem PySem.W PySem.Calls PyProof.Rows PySem.Spec
def LcPost (h₀ : Heap) (L : Addr) (m₀ : Str → Option Value) (I : Addr) (it : Obj) (Jn : Led → Prop) (s₁ : Shared) (f : Flow) (s₂ : Shared) : Prop :=
  f = .next ∧ ∃ h' tk news', s₂ = { s₁ with heap := h', toks := tk } ∧ Fr h₀ L h' m₀ ∧ News h₀ L h' ((I, it) :: news') ∧ (∀ p ∈ news', p.1 ≠ I) ∧ Jn news'
theorem LcPost.intro {h₀ h' : Heap} {L I : Addr} {m₀ : Str → Option Value} {it : Obj} {Jn : Led → Prop} {s₁ : Shared} {tk : Nat} {all : Led} (news' : Led)
    (F : Fr h₀ L h' m₀) (N : News h₀ L h' all) (hI : (I, it) ∈ all) (hn : ∀ p ∈ news', p ∈ all) (ho : ∀ p ∈ news', p.1 ≠ I) (hj : Jn news') :
    LcPost h₀ L m₀ I it Jn s₁ .next { s₁ with heap := h', toks := tk } :=
  ⟨rfl, h', tk, news', rfl, F, fun p hq => by
    rcases List.mem_cons.mp hq with rfl | hq
    · exact N _ hI
    · exact N p (hn p hq), ho, hj⟩
variable {prog : Program} {w : World} {A : Around} {E : Value → Shared → Prop} {s : Shared} {env : Env} {h₀ : Heap} {target : Expr} {body : List Stmt} {Q : Flow → Shared → Prop}
theorem lc_made {l : Addr} {vs : List Value} {nn : Nat} {m₀ : Str → Option Value} {news₀ : Led} (J : Nat → Led → Prop)
    (hh : A.handled = none) (F : Fr h₀ env.locals s.heap m₀) (N : News h₀ env.locals s.heap news₀) (hl : ∀ i news, J i news → (l, listOf (List.toArray vs) nn) ∈ news) (hJ : J 0 news₀)
    (turn : ∀ i v news₁ (s₁ : Shared) I it, vs[i]? = some v → J i news₁ → it.cls = .type "list_iterator" → (∀ p ∈ news₁, p.1 ≠ I) →
      Fr h₀ env.locals s₁.heap m₀ → News h₀ env.locals s₁.heap ((I, it) :: news₁) →
      wpAny (model prog w) A (assign target env v) (fun _ s₃ => wpAny (model prog w) A (execs body env) (LcPost h₀ env.locals m₀ I it (J (i + 1)) s₁) E s₃) E s₁)
    (done : ∀ news₁ h tk, J vs.length news₁ → Fr h₀ env.locals h m₀ → News h₀ env.locals h news₁ → Q .next { s with heap := h, toks := tk }) :
    wpAny (model prog w) A (pyIter (.ref l)) (fun it s₂ => LoopAtT prog w A h₀ env target body Q E it s₂) E s := by
  have hm := N _ (hl 0 news₀ hJ)
  have hls : s.heap.IsList l vs.toArray := ⟨_, hm.1, rfl, nn, rfl⟩
  have hlL : l ≠ env.locals := hm.2.1
  have hlt : l < s.heap.objs.size := Heap.lt_size hm.1
  have hne : l ≠ s.heap.objs.size := Nat.ne_of_lt hlt
  refine wpAny_pyIter_list hls ?_
  have W := Walks.list (prog := prog) (w := w) hh s.heap.objs.size l hne vs.toArray
  have hlen : vs.toArray.size = vs.length := by simp
  rw [hlen] at W
  refine ⟨_, _, _, vs.length, _, _, m₀, news₀, (fun i m nx => m = m₀ ∧ J i nx), rfl, W, ?_, ?_, ?_, ⟨⟨_, Heap.get?_push_size _ rfl, rfl, rfl⟩, hls.at fun o e => Heap.get?_push_of_some _ e⟩, F.push _, (fun p hp => ⟨Heap.get?_push_of_some _ (N p hp).1, (N p hp).2⟩),
    (fun i s' v Q' st hQ' => letGo_listiter st.1 hQ'), ⟨rfl, hJ⟩, ?_, ?_⟩
  · intro hm
    rcases List.mem_cons.mp hm with e | hm
    · exact absurd F.ns.lt (e ▸ Nat.lt_irrefl _)
    · exact hlL (List.mem_singleton.mp hm).symm
  · intro b hb
    rw [List.mem_singleton.mp hb]
    exact next_is_new F
  · intro p hp hI
    exact absurd (Heap.lt_size (N p hp).1) ((List.mem_singleton.mp hI) ▸ Nat.lt_irrefl _)
  · rintro i v m₁ news₁ s₁ own hin hP ⟨rfl, hj₁⟩ hoff hown hget hfp hst F₁ N₁
    obtain ⟨it, hit, hic, _⟩ := hst.1
    have hIown : (s.heap.objs.size, it) ∈ own := hfp _ List.mem_cons_self (next_is_new F) it hit
    have N₂ : News h₀ env.locals s₁.heap ((s.heap.objs.size, it) :: news₁) := fun p hp => by
      rcases List.mem_cons.mp hp with rfl | hp
      · exact N₁ _ (List.mem_append_left _ hIown)
      · exact N₁ _ (List.mem_append_right _ hp)
    have hoff' : ∀ p ∈ news₁, p.1 ≠ s.heap.objs.size := fun p hp q => hoff p hp (List.mem_singleton.mpr q)
    refine wpAny_mono (turn i v news₁ s₁ s.heap.objs.size it (by simpa using hP) hj₁ hic hoff' F₁ N₂) (fun _ s₃ h₃ => wpAny_mono h₃ (fun f s₂ p => ?_) fun _ _ e => e) fun _ _ e => e
    obtain ⟨ef, h', tk, news', e', F', N', ho', hp'⟩ := p
    refine ⟨ef, h', tk, _, news', e', F', fun p hp => ?_, fun p hp q => ho' p hp (List.mem_singleton.mp q), rfl, hp'⟩
    rcases List.mem_append.mp hp with h | h
    · have h2 : s₁.heap.get? p.1 = some p.2 := hget p h
      rcases List.mem_cons.mp (hown p h) with h1 | h1
      · rw [h1, hit] at h2
        have h3 : p = (s.heap.objs.size, it) := Prod.ext h1 (Option.some.inj h2).symm
        rw [h3]
        exact N' _ List.mem_cons_self
      · have h1 := List.mem_singleton.mp h1
        have y1 : s₁.heap.get? l = some (listOf (List.toArray vs) nn) := (N₂ _ (List.mem_cons_of_mem _ (hl i news₁ hj₁))).1
        rw [h1, y1] at h2
        have h3 : p = (l, listOf (List.toArray vs) nn) := Prod.ext h1 (Option.some.inj h2).symm
        rw [h3]
        exact N' _ (List.mem_cons_of_mem _ (hl (i + 1) news' hp'))
    · exact N' p (List.mem_cons_of_mem _ h)
  · rintro h' tk m' news' F' N' _ ⟨rfl, hj₁⟩
    exact done news' h' tk hj₁ F' N'
end
end My

/- the loop of like: for asked in asked_of(p), ends bound anew at each turn; ends and asked are cells -/
namespace My
section
open PySem PySem.W PySem.Calls PyProof.Rows PySem.Spec LSm
/-- the marks at one turn, as they lie -/
def LkJ (t : List Int) (asks : List Int) (b₀ : List Bool) (l cA cE : Addr) (lo : Obj) (i : Nat) (nx : Led) : Prop :=
  ∃ D ws c oA oE xA, nx = [(D, listOf (List.toArray ws) c), (l, lo), (cA, oA), (cE, oE)] ∧ oE.data = .cell (some (.ref D)) ∧ oA.data = .cell xA ∧ BoolsAre ws ((asks.take i).foldl (stepE t) b₀) ∧
    (@Ne Nat D l) ∧ (@Ne Nat D cA) ∧ (@Ne Nat D cE)
theorem stepE_len {t : List Int} {b : List Bool} {a : Int} (h : b.length = t.length + 1) : (stepE t b a).length = t.length + 1 := by
  unfold stepE
  split
  · rw [List.length_map, List.length_range, h]
  · rw [List.length_cons, List.length_map, List.length_zip, h]; omega
theorem fold_len {t : List Int} : ∀ (l : List Int) {b : List Bool}, b.length = t.length + 1 → (l.foldl (stepE t) b).length = t.length + 1
  | [], _, h => h
  | _ :: r, _, h => fold_len r (stepE_len h)
variable {prog : Program} {w : World} {A : Around} {E : Value → Shared → Prop} {s : Shared} {env : Env} {h₀ : Heap} {target : Expr} {body : List Stmt} {Q : Flow → Shared → Prop}
def LkPost (t : List Int) (h₀ : Heap) (L : Addr) (m₀ : Str → Option Value) (I : Addr) (it : Obj) (l cA cE : Addr) (lo : Obj) (b : List Bool) (a : Int) (s₁ : Shared) (f : Flow) (s₂ : Shared) : Prop :=
  f = .next ∧ ∃ h' tk D ws c oA oE xA, s₂ = { s₁ with heap := h', toks := tk } ∧ Fr h₀ L h' m₀ ∧ News h₀ L h' [(I, it), (D, listOf (List.toArray ws) c), (l, lo), (cA, oA), (cE, oE)] ∧ oE.data = .cell (some (.ref D)) ∧ oA.data = .cell xA ∧
    BoolsAre ws (stepE t b a) ∧ (@Ne Nat D I) ∧ (@Ne Nat D l) ∧ (@Ne Nat D cA) ∧ (@Ne Nat D cE)
theorem lk_loop {t asks : List Int} {b₀ : List Bool} {l cA cE D₀ : Addr} {vs ws₀ : List Value} {nn c₀ : Nat} {oA₀ oE₀ : Obj} {x₀ : Option Value} {m₀ : Str → Option Value} {news₀ : Led}
    (hh : A.handled = none) (F : Fr h₀ env.locals s.heap m₀) (N : News h₀ env.locals s.heap news₀) (e₀ : news₀ = [(l, listOf (List.toArray vs) nn), (D₀, listOf (List.toArray ws₀) c₀), (cA, oA₀), (cE, oE₀)])
    (hv : IntsAre vs asks) (hE : oE₀.data = .cell (some (.ref D₀))) (hA : oA₀.data = .cell x₀) (hb : BoolsAre ws₀ b₀) (hb' : b₀.length = t.length + 1)
    (h1 : D₀ ≠ l) (h2 : D₀ ≠ cA) (h3 : D₀ ≠ cE) (h4 : l ≠ cA) (h5 : l ≠ cE) (h6 : cA ≠ cE)
    (turn : ∀ (a : Int) (ta : Tok) (b : List Bool) D ws c oA oE xA I it h g dr tk os, a ∈ asks → BoolsAre ws b → b.length = t.length + 1 → oE.data = .cell (some (.ref D)) → oA.data = .cell xA → it.cls = .type "list_iterator" →
      (@Ne Nat D I) → (@Ne Nat l I) → (@Ne Nat cA I) → (@Ne Nat cE I) → (@Ne Nat D l) → (@Ne Nat D cA) → (@Ne Nat D cE) → (@Ne Nat l cA) → (@Ne Nat l cE) → (@Ne Nat cA cE) →
      Fr h₀ env.locals h m₀ → News h₀ env.locals h [(I, it), (D, listOf (List.toArray ws) c), (l, listOf (List.toArray vs) nn), (cA, oA), (cE, oE)] →
      wpAny (model prog w) A (assign target env (.int a ta)) (fun _ s₃ => wpAny (model prog w) A (execs body env) (LkPost t h₀ env.locals m₀ I it l cA cE (listOf (List.toArray vs) nn) b a ⟨h, g, dr, tk, os⟩) E s₃) E ⟨h, g, dr, tk, os⟩)
    (done : ∀ (b : List Bool) D ws c oA oE h tk, b = asks.foldl (stepE t) b₀ → b.length = t.length + 1 → BoolsAre ws b → oE.data = .cell (some (.ref D)) → (@Ne Nat D cE) →
      Fr h₀ env.locals h m₀ → News h₀ env.locals h [(D, listOf (List.toArray ws) c), (cA, oA), (cE, oE)] → Q .next { s with heap := h, toks := tk }) :
    wpAny (model prog w) A (pyIter (.ref l)) (fun it s₂ => LoopAtT prog w A h₀ env target body Q E it s₂) E s := by
  have hlen : vs.length = asks.length := hv.length
  subst e₀
  have N' : News h₀ env.locals s.heap [(D₀, listOf (List.toArray ws₀) c₀), (l, listOf (List.toArray vs) nn), (cA, oA₀), (cE, oE₀)] := fun p hp => N p (by
    simp only [List.mem_cons, List.not_mem_nil, or_false] at hp ⊢
    rcases hp with h | h | h | h <;> simp [h])
  refine lc_made (vs := vs) (nn := nn) (LkJ t asks b₀ l cA cE (listOf (List.toArray vs) nn)) hh F N' ?_ ⟨D₀, ws₀, c₀, oA₀, oE₀, x₀, rfl, hE, hA, hb, h1, h2, h3⟩ ?_ ?_
  · rintro i _ ⟨D, ws, c, oA, oE, xA, rfl, _⟩
    simp
  · rintro i v _ ⟨h, g, dr, tk, os⟩ I it hi ⟨D, ws, c, oA, oE, xA, rfl, dE, dA, hbs, n1, n2, n3⟩ hic hoff F₁ N₁
    obtain ⟨a, ta, rfl, ha⟩ := IntsAre.at hv i v hi
    have o1 := hoff _ List.mem_cons_self
    have o2 := hoff _ (List.mem_cons_of_mem _ List.mem_cons_self)
    have o3 := hoff _ (List.mem_cons_of_mem _ (List.mem_cons_of_mem _ List.mem_cons_self))
    have o4 := hoff _ (List.mem_cons_of_mem _ (List.mem_cons_of_mem _ (List.mem_cons_of_mem _ List.mem_cons_self)))
    refine wpAny_mono (turn a ta _ D ws c oA oE xA I it h g dr tk os (List.mem_of_getElem? ha) hbs (fold_len _ hb') dE dA hic o1 o2 o3 o4 n1 n2 n3 h4 h5 h6 F₁ N₁) (fun _ s₃ h₃ => wpAny_mono h₃ (fun f s₂ p => ?_) fun _ _ e => e) fun _ _ e => e
    obtain ⟨ef, h', tk', D', ws', c', oA', oE', xA', e', F', N', dE', dA', hb2, q0, q1, q2, q3⟩ := p
    have step : (asks.take (i + 1)).foldl (stepE t) b₀ = stepE t ((asks.take i).foldl (stepE t) b₀) a := by
      rw [List.take_add_one, ha]
      simp
    refine ⟨ef, h', tk', _, e', F', N', ?_, D', ws', c', oA', oE', xA', rfl, dE', dA', step ▸ hb2, q1, q2, q3⟩
    intro p hp
    simp only [List.mem_cons, List.not_mem_nil, or_false] at hp
    rcases hp with rfl | rfl | rfl | rfl
    · exact q0
    · exact o2
    · exact o3
    · exact o4
  · rintro _ h tk ⟨D, ws, c, oA, oE, xA, rfl, dE, dA, hbs, n1, n2, n3⟩ F₁ N₁
    rw [hlen, List.take_length] at hbs
    refine done _ D ws c oA oE h tk rfl (fold_len _ hb') hbs dE n3 F₁ fun p hp => N₁ p ?_
    simp only [List.mem_cons, List.not_mem_nil, or_false] at hp ⊢
    rcases hp with h | h | h <;> simp [h]
end
end My

/- lists of truth values: slices, membership, and the comprehensions that make them (over a range, over enumerate of an argument's list) -/
namespace My
section
open PySem PySem.W PySem.Calls PyProof.Rows PySem.Spec PyProof.Rows.LCg LSm
theorem BoolsAre_take : ∀ {vs : List Value} {bs : List Bool}, BoolsAre vs bs → ∀ k : Nat, BoolsAre (vs.take k) (bs.take k)
  | _, _, _, 0 => .nil
  | _, _, .nil, _ + 1 => .nil
  | _, _, .cons b h, k + 1 => .cons b (BoolsAre_take h k)
theorem bo_upto {vs : List Value} {bs : List Bool} (hi : BoolsAre vs bs) {y : Int} (h0 : 0 ≤ y) (h2 : y ≤ bs.length) : BoolsAre (slicePick vs.toArray none (some y) none).toList (bs.take y.toNat) := by
  have ey : y = (y.toNat : Int) := by omega
  have hl := hi.length
  rw [ey, slicePick_upto vs.toArray y.toNat (by simp [hl]; omega)]
  simpa [← ey] using BoolsAre_take hi y.toNat
def isBool (b : Bool) : Value → Bool
  | .bool c => c == b
  | _ => false
theorem any_isBool (b : Bool) : ∀ {vs : List Value} {bs : List Bool}, BoolsAre vs bs → vs.any (isBool b) = bs.contains b
  | _, _, .nil => rfl
  | _, _, .cons c h => by
    rw [List.any_cons, any_isBool b h, List.contains_cons]
    show ((c == b) || _) = ((b == c) || _)
    cases b <;> cases c <;> rfl
theorem bools_mem : ∀ {vs : List Value} {bs : List Bool}, BoolsAre vs bs → ∀ y ∈ vs, ∃ c, y = .bool c
  | _, _, .nil, _, hy => nomatch hy
  | _, _, .cons c h, y, hy => by
    rcases List.mem_cons.mp hy with rfl | hy
    · exact ⟨c, rfl⟩
    · exact bools_mem h y hy
section
variable {prog : Program} {w : World} {A : Around} {E : Value → Shared → Prop} {s : Shared} {h₀ : Heap} {L : Addr} {m : Str → Option Value} {news : List (Addr × Obj)}
theorem bo_slice {value slice : PySem.Expr} {l : Addr} {vs : List Value} {bs : List Bool} {y : Int} {u : Tok} {Q : Value → Shared → Prop} (F : Fr h₀ L s.heap m) (N : News h₀ L s.heap news) (hl : s.heap.IsList l vs.toArray) (hb : BoolsAre vs bs) (h0 : 0 ≤ y) (h1 : y ≤ bs.length) (h2 : bs.length ≤ 64)
    (h : ∀ D ws h', Fr h₀ L h' m → News h₀ L h' ((D, listOf (List.toArray ws) 0) :: news) → (∀ p ∈ news, p.1 < D) → BoolsAre ws (bs.take y.toNat) → Q (.ref D) { s with heap := h' })
    (hs : subscripted slice false (.ref l) (.ref s.heap.objs.size) = operate [.ref s.heap.objs.size, .ref l] (getItem (.ref l) (.ref s.heap.objs.size))) (ht : ∀ r, letTemporaryGo value (.ref l) r = pure ()) :
    wpAny (model prog w) A (subscriptTail value slice (.ref l) (.ref s.heap.objs.size)) Q E { s with heap := s.heap.push { cls := .type "slice", data := .fields #[.none, .int y u, .none] } } := by
  refine kmk_slice F N hl .none (.int y u) (fun D h' F' N' l1 => h D (slicePick vs.toArray none (some y) none).toList h' F' ?_ l1 (bo_upto hb h0 h1)) hs ht ?_
  · rw [Array.toArray_toList]; exact N'
  · rw [List.size_toArray, hb.length, PySem.sizeLine_eq]; omega
theorem bo_in {l : Addr} {vs : List Value} {bs : List Bool} {b : Bool} {Q : Value → Shared → Prop} (hl : s.heap.IsList l vs.toArray) (hb : BoolsAre vs bs) (h : Q (.bool (bs.contains b)) s) :
    wpAny (model prog w) A (compareOp .In (.bool b) (.ref l)) Q E s := by
  refine PySem.SeqAt.in_listAt (isBool b) hl (fun y hy => ?_) ?_
  · obtain ⟨c, rfl⟩ := bools_mem hb y (by simpa using hy)
    exact PySem.SeqAt.EqAt.bool_bool c b
  · rw [← Array.any_toList, show vs.toArray.toList = vs from rfl, any_isBool b hb]
    exact h
end
/-- one element made -/
def CbEl (news : List (Addr × Obj)) (r : Bool) (y : Value) (news' : List (Addr × Obj)) : Prop := news' = news ∧ y = .bool r
theorem cb_end {h₀ : Heap} {L I C D : Addr} {m : Str → Option Value} {s₁ : Shared} {oI oC oD : Obj} {S : List (Addr × Obj) → Prop} {news all : List (Addr × Obj)} {r r' : Bool} {h' : Heap} {tk : Nat}
    (F : Fr h₀ L h' m) (N : News h₀ L h' all) (sub : ∀ p ∈ (I, oI) :: (C, oC) :: (D, oD) :: news, p ∈ all) (off : Off3 I C D news) (hS : S news) (e : r = r') :
    CompEnd h₀ L m s₁ I oI C oC D oD S (fun y news' => CbEl news r y news') (.bool r') { s₁ with heap := h', toks := tk } := CompEnd.intro F N news sub off hS ⟨rfl, by rw [e]⟩
section
variable {prog : Program} {w : World} {A : Around} {h₀ : Heap} {L : Addr} {m : Str → Option Value} {env : Env} {elt : PySem.Expr} {x : Str} {scope : Scope} {cl : List (Str × Addr)} {s : Shared} {S : List (Addr × Obj) → Prop} {P : Nat → Value → Prop} {Fin : List Value → List (Addr × Obj) → Prop} {news : List (Addr × Obj)}
theorem cb_rest {n : Nat} {ks : List Int} (g : Int → Bool) (hks : ks.length = n) (hP : ∀ i v, i < n → P i v → ∃ k t, ks[i]? = some k ∧ v = .int k t)
    (turn : ∀ k t I oI C oC D m₂ ys h tk (E' : Value → Shared → Prop), k ∈ ks → NsObj oC m₂ → m₂ x = some (.int k t) → Fr h₀ L h m → News h₀ L h ((I, oI) :: (C, oC) :: (D, lst ys) :: news) → Off3 I C D news → ((@Ne Nat I C) ∧ (@Ne Nat I D) ∧ (@Ne Nat C D)) →
      wpAny (model prog w) A (eval elt (compEnvC scope cl C env)) (CompEnd h₀ L m { s with heap := h, toks := tk } I oI C oC D (lst ys) S (fun y news' => CbEl news (g k) y news')) E' { s with heap := h, toks := tk })
    (fin : ∀ ys, BoolsAre ys (ks.map g) → Fin ys news) : CompRest prog w A h₀ L m env elt x scope cl s S P Fin n 0 [] news := by
  have key : ∀ (j i : Nat) (ys : List Value), i + j = n → BoolsAre ys ((ks.take i).map g) → CompRest prog w A h₀ L m env elt x scope cl s S P Fin j i ys news := by
    intro j
    induction j with
    | zero =>
      intro i ys hi hy
      have e : i = ks.length := by omega
      subst e
      rw [List.take_length] at hy
      exact CompRest.zero (fin ys hy)
    | succ j ih =>
      intro i ys hi hy
      refine CompRest.succ ?_
      intro v I oI C oC D m₂ h tk E' hv hC hx F N off ne
      obtain ⟨k, t, hk, hv'⟩ := hP i v (by omega) hv
      rw [hv'] at hx
      refine wpAny_mono (turn k t I oI C oC D m₂ ys h tk E' (List.mem_of_getElem? hk) hC hx F N off ne) (fun y s₂ hq => ?_) fun _ _ e => e
      obtain ⟨h', tk', nw, e, F', N', off', hS, hn, hy'⟩ := hq
      rw [hn] at N' off' hS
      refine ⟨h', tk', news, e, F', N', off', hS, ?_⟩
      rw [hy']
      refine ih (i + 1) _ (by omega) ?_
      rw [List.take_add_one, hk]
      simpa using kbo_app hy (.cons (g k) .nil)
  exact key n 0 [] (by omega) (by simp only [List.take_zero, List.map_nil]; exact .nil)
theorem cb_range {n : Nat} {a : Int} (g : Int → Bool)
    (turn : ∀ k t I oI C oC D m₂ ys h tk (E' : Value → Shared → Prop), a ≤ k → k < a + (n : Int) → NsObj oC m₂ → m₂ x = some (.int k t) → Fr h₀ L h m → News h₀ L h ((I, oI) :: (C, oC) :: (D, lst ys) :: news) → Off3 I C D news → ((@Ne Nat I C) ∧ (@Ne Nat I D) ∧ (@Ne Nat C D)) →
      wpAny (model prog w) A (eval elt (compEnvC scope cl C env)) (CompEnd h₀ L m { s with heap := h, toks := tk } I oI C oC D (lst ys) S (fun y news' => CbEl news (g k) y news')) E' { s with heap := h, toks := tk })
    (fin : ∀ ys, BoolsAre ys ((rangeKs a n).map g) → Fin ys news) : CompRest prog w A h₀ L m env elt x scope cl s S (fun i v => ∃ t, v = .int (a + (i : Int)) t) Fin n 0 [] news :=
  cb_rest (ks := rangeKs a n) g (rangeKs_length a n) (fun i v hi hv => by
    obtain ⟨t, e⟩ := hv
    exact ⟨a + (i : Int), t, by simp [rangeKs, hi], e⟩)
    (fun k t I oI C oC D m₂ ys h tk E' hk hC hx F N off ne => turn k t I oI C oC D m₂ ys h tk E' (mem_rangeKs hk).1 (mem_rangeKs hk).2 hC hx F N off ne) fin
end
/-! ## over enumerate -/
/-- the truth values of an enumerated list -/
def ebF (g : Int → Int → Bool) : Nat → List Int → List Bool
  | _, [] => []
  | i, k :: r => g (i : Int) k :: ebF g (i + 1) r
theorem ebF_len (g : Int → Int → Bool) : ∀ (l : List Int) (i : Nat), (ebF g i l).length = l.length
  | [], _ => rfl
  | _ :: r, i => by rw [ebF, List.length_cons, List.length_cons, ebF_len g r]
variable {prog : Program} {w : World} {A : Around} {E : Value → Shared → Prop} {s : Shared} {h₀ : Heap} {L : Addr} {m : Str → Option Value} {env : Env}
def EbTurn (prog : Program) (w : World) (A : Around) (h₀ : Heap) (L : Addr) (m : Str → Option Value) (env : Env) (elt : PySem.Expr) (a b : Str) (scope : Scope) (cl : List (Str × Addr)) (g : Int → Int → Bool) (ns : List Int) (news : List (Addr × Obj)) (s : Shared) : Prop :=
  ∀ (i : Nat) (k : Int) (t u : Tok) (e it : Addr) (oI oi : Obj) (C : Addr) (oC : Obj) (D : Addr) (m₂ : Str → Option Value) (ys : List Value) (h : Heap) (tk : Nat) (E' : Value → Shared → Prop), i < ns.length → ns[i]? = some k → k ∈ ns →
    NsObj oC m₂ → m₂ a = some (.int (i : Int) t) → m₂ b = some (.int k u) → Fr h₀ L h m → News h₀ L h ((e, oI) :: (C, oC) :: (D, lst ys) :: (it, oi) :: news) → Off3 e C D ((it, oi) :: news) → ((@Ne Nat e C) ∧ (@Ne Nat e D) ∧ (@Ne Nat C D)) →
    wpAny (model prog w) A (eval elt (compEnvC scope cl C env)) (CompEnd h₀ L m { s with heap := h, toks := tk } e oI C oC D (lst ys) (fun _ => True) (fun y news' => CbEl ((it, oi) :: news) (g (i : Int) k) y news')) E' { s with heap := h, toks := tk }
set_option maxHeartbeats 2000000 in
theorem eb_block {elt iter : PySem.Expr} {a b : Str} {pa pb tp : Pos} {kk : Nat} {scope : Scope} {cl : List (Str × Addr)} {pos : Pos} {s₂ : Shared} {e it l : Addr} {vs : List Value} {ns : List Int} {news : List (Addr × Obj)}
    {RR : Value → Addr → Result → Shared → Prop} (g : Int → Int → Bool)
    (hh : A.handled = none) (hei : e ≠ it) (hle : l ≠ e) (hli : l ≠ it) (hl₀ : h₀.IsList l vs.toArray) (hi : IntsAre vs ns) (hsz : vs.length ≤ sizeLine)
    (hst : (∃ old, IsEnum s₂.heap e it ((0 : Nat) : Int) old) ∧ s₂.heap.IsListIter it l 0 ∧ s₂.heap.IsList l vs.toArray)
    (hcell : ∀ y ∈ scope.names, y.2 ≠ .cell) (hkind : scope.kind = .function) (hxa : scope.names.lookup a = some .local) (hxb : scope.names.lookup b = some .local) (hab : ¬ a = b)
    (F : Fr h₀ L s₂.heap m) (N : News h₀ L s₂.heap news) (heL : L ≠ e) (hiL : L ≠ it) (he₀ : h₀.get? e = none) (hi₀ : h₀.get? it = none) (offe : ∀ p ∈ news, p.1 ≠ e) (offi : ∀ p ∈ news, p.1 ≠ it)
    (turn : EbTurn prog w A h₀ L m env elt a b scope cl g ns news s₂)
    (hRR : ∀ D C h tk m' ys, Fr h₀ L h m → News h₀ L h ((D, lst ys) :: news) → Off1 D news → h.Ns C m' → h₀.get? C = none → h₀.get? D = none → C ≠ L → D ≠ L → C ≠ D → (∀ p ∈ news, p.1 ≠ C) → BoolsAre ys (ebF g 0 ns) → ys.length ≤ vs.length → RR (.ref D) C (.ok .next) { s₂ with heap := h, toks := tk }) :
    wpAny (model prog w) A (newList []) (fun acc s₃ => wpAny (model prog w) A (newFunctionEnv scope env.globals cl [] env.qual none .none (some env)) (fun cenv s₄ =>
      codeAny (model prog w) A (.compStart (.ListComp elt [⟨.Tuple [.Name a pa, .Name b pb] kk tp, iter, [], 0⟩] scope pos) 0 (.ref e) acc { cenv with scope := relabel scope env }) (RR acc cenv.locals) s₄) E s₃) E s₂ := by
  have hlen : vs.length = ns.length := hi.length
  refine wpAny_newObj_type (wpAny_newFunctionEnv hcell (by intro y hy; simp at hy) (fun h₁ hns₁ hsb₁ => ?_) hkind)
  dsimp only at hns₁ hsb₁ ⊢
  generalize hH2 : s₂.heap.push { cls := .type "list", dict := none, data := .seq ([] : List Value).toArray } = H2 at hns₁ hsb₁ ⊢
  have hC : H2.objs.size = s₂.heap.objs.size + 1 := by rw [← hH2, Heap.size_push]
  have hDC : s₂.heap.objs.size ≠ H2.objs.size := by rw [hC]; exact Nat.ne_of_lt (Nat.lt_succ_self _)
  have below : ∀ b, b < s₂.heap.objs.size → b ≠ H2.objs.size ∧ b ≠ s₂.heap.objs.size := fun b hb => ⟨by rw [hC]; exact Nat.ne_of_lt (Nat.lt_succ_of_lt hb), Nat.ne_of_lt hb⟩
  have helt : e < s₂.heap.objs.size := by obtain ⟨_, x⟩ := hst.1; exact Heap.lt_size x
  have hilt : it < s₂.heap.objs.size := by obtain ⟨_, x, _⟩ := hst.2.1; exact Heap.lt_size x
  have hllt : l < s₂.heap.objs.size := by obtain ⟨_, x, _⟩ := hst.2.2; exact Heap.lt_size x
  have old : ∀ b o, s₂.heap.get? b = some o → h₁.get? b = some o := fun b o x => hsb₁.extBut b o (below b (Heap.lt_size x)).1 (Heap.get?_push_of_some _ (hH2 ▸ Heap.get?_push_of_some _ x))
  have hacc : h₁.get? s₂.heap.objs.size = some (lst []) := hsb₁.extBut _ _ hDC (Heap.get?_push_of_some _ (hH2 ▸ Heap.get?_push_size _ rfl))
  have fresh : ∀ a, s₂.heap.objs.size ≤ a → s₂.heap.get? a = none := fun a ha => by
    cases x : s₂.heap.get? a with
    | none => rfl
    | some o' => exact absurd (Heap.lt_size x) (Nat.not_lt.mpr ha)
  have fresh₀ : ∀ a, s₂.heap.objs.size ≤ a → h₀.get? a = none := fun a ha => by
    cases x : h₀.get? a with
    | none => rfl
    | some o' => have := F.keep a o' x; rw [fresh a ha] at this; cases this
  have hD₀ : h₀.get? s₂.heap.objs.size = none := fresh₀ _ (Nat.le_refl _)
  have hC₀ : h₀.get? H2.objs.size = none := fresh₀ _ (by rw [hC]; exact Nat.le_succ _)
  have hLlt : L < s₂.heap.objs.size := F.ns.lt
  have hDL : s₂.heap.objs.size ≠ L := Ne.symm (below L hLlt).2
  have hCL : H2.objs.size ≠ L := Ne.symm (below L hLlt).1
  have heC : e ≠ H2.objs.size := (below e helt).1
  have heD : e ≠ s₂.heap.objs.size := (below e helt).2
  have hiC : it ≠ H2.objs.size := (below it hilt).1
  have hiD : it ≠ s₂.heap.objs.size := (below it hilt).2
  have offC : ∀ p ∈ news, p.1 ≠ H2.objs.size := fun p hp => (below _ (Heap.lt_size (N p hp).1)).1
  have offD : ∀ p ∈ news, p.1 ≠ s₂.heap.objs.size := fun p hp => (below _ (Heap.lt_size (N p hp).1)).2
  have W := (WalksT.enumerate (prog := prog) (w := w) hh e it l hei hle hli vs.toArray).toU
  have hst₁ : (∃ old, IsEnum h₁ e it ((0 : Nat) : Int) old) ∧ h₁.IsListIter it l 0 ∧ h₁.IsList l vs.toArray := W.frame 0 _ _ hst fun b _ o x => old b o x
  have hvs : vs.toArray.size = vs.length := by simp
  have loop : ∀ s₃ : Shared, s₃ = { s₂ with heap := h₁, toks := s₂.toks + ([] : List (Str × Value)).length } →
      codeAny (model prog w) A (.compLoop (.ListComp elt [⟨.Tuple [.Name a pa, .Name b pb] kk tp, iter, [], 0⟩] scope pos) 0 (.ref e) (.ref s₂.heap.objs.size) (compEnvC scope cl H2.objs.size env))
        (RR (.ref s₂.heap.objs.size) H2.objs.size) s₃ := by
    rintro s₃ rfl
    refine LCp.codeAny_compLoop_pair
      (fun k s' => ∃ h' tk i ys acc m', s' = { s₂ with heap := h', toks := tk } ∧ i ≤ vs.length ∧ k = vs.length + 1 - i ∧ ys.length ≤ i ∧ ((∃ old, IsEnum h' e it (i : Int) old) ∧ h'.IsListIter it l i ∧ h'.IsList l vs.toArray) ∧ Fr h₀ L h' m ∧ h'.Ns H2.objs.size m' ∧
        News h₀ L h' ((s₂.heap.objs.size, lst ys) :: news) ∧ BoolsAre ys acc ∧ acc ++ ebF g i (ns.drop i) = ebF g 0 ns) ?_ (vs.length + 1)
      ⟨h₁, _, 0, [], [], _, rfl, Nat.zero_le _, rfl, Nat.le_refl _, hst₁, F.keeps old, hns₁, fun p hp => ?_, .nil, by rw [List.drop_zero, List.nil_append]⟩
    · rintro k s' ⟨h', tk, i, ys, acc, m', rfl, hi', rfl, hyl, hst', F', hn', N', hy, hfold⟩
      by_cases hlt : i < vs.length
      · refine W.item i _ _ _ (by rw [hvs]; exact hlt) hst' fun T vals h₂ tk₂ hP hT hMd hk₂ => ?_
        refine W.go [.Name a pa, .Name b pb] kk tp i T _ _ _ hMd fun h₃ hst₃ hk₃ => ?_
        have hTw := W.apart i T _ hMd
        obtain ⟨t, x, hx, rfl⟩ := hP
        have hT₃ : h₃.IsTuple T #[.int (i : Int) t, x] := hT.at fun o x => hk₃ T o hTw x
        obtain ⟨kn, tx, ex, hkn⟩ := IntsAre.at hi i x (by simpa using hx)
        subst ex
        have up₃ : ∀ c o, c ≠ e → c ≠ it → h'.get? c = some o → h₃.get? c = some o := fun c o h1 h2 x => hk₃ c o (by simp [h1, h2]) (hk₂ c o (by simp [h1, h2]) x)
        refine kcp_assign (env := compEnvC scope cl H2.objs.size env) hh hT₃ (lookup_relabel_local hxa) (lookup_relabel_local hxb) (by simp [compEnvC, relabel, hkind]) (hn'.at' fun o x => up₃ _ o (Ne.symm heC) (Ne.symm hiC) x) fun h₄ tk₄ hn₄ hs₄ => ?_
        have up : ∀ c o, c ≠ e → c ≠ it → c ≠ H2.objs.size → h'.get? c = some o → h₄.get? c = some o := fun c o h1 h2 h3 x => hs₄ c o h3 (up₃ c o h1 h2 x)
        obtain ⟨⟨old₃, hE₃⟩, ⟨oi, hoi, hci, hdi⟩, hL₃⟩ := hst₃
        have hE₄ : IsEnum h₄ e it ((i + 1 : Nat) : Int) old₃ := hs₄ e _ heC hE₃
        obtain ⟨oI, heI, hoI⟩ : ∃ oI : Obj, h₄.get? e = some oI ∧ ∀ h : Heap, h.get? e = some oI → ∃ old, IsEnum h e it ((i + 1 : Nat) : Int) old := ⟨_, hE₄, fun _ x => ⟨_, x⟩⟩
        have hoi₄ : h₄.get? it = some oi := hs₄ it _ hiC hoi
        obtain ⟨oC, heC', hoC⟩ := ns_obj hn₄
        have F₄ : Fr h₀ L h₄ m := ⟨F'.ns.at' fun o x => up _ o heL hiL (Ne.symm hCL) x, fun c o x => up c o (fun q => by rw [q, he₀] at x; cases x) (fun q => by rw [q, hi₀] at x; cases x) (fun q => by rw [q, hC₀] at x; cases x) (F'.keep c o x), F'.above⟩
        have N₄ : News h₀ L h₄ ((e, oI) :: (H2.objs.size, oC) :: (s₂.heap.objs.size, lst ys) :: (it, oi) :: news) := fun q hq => by
          rcases List.mem_cons.mp hq with rfl | hq
          · exact ⟨heI, Ne.symm heL, he₀⟩
          rcases List.mem_cons.mp hq with rfl | hq
          · exact ⟨heC', hCL, hC₀⟩
          rcases List.mem_cons.mp hq with rfl | hq
          · have z := N' _ List.mem_cons_self
            exact ⟨up _ _ (Ne.symm heD) (Ne.symm hiD) hDC z.1, z.2⟩
          rcases List.mem_cons.mp hq with rfl | hq
          · exact ⟨hoi₄, Ne.symm hiL, hi₀⟩
          · have z := N' q (List.mem_cons_of_mem _ hq)
            exact ⟨up _ _ (offe q hq) (offi q hq) (offC q hq) z.1, z.2⟩
        have off₄ : Off3 e H2.objs.size s₂.heap.objs.size ((it, oi) :: news) := Off3.of fun p hp => by
          rcases List.mem_cons.mp hp with rfl | hp
          · exact ⟨Ne.symm hei, hiC, hiD⟩
          · exact ⟨offe p hp, offC p hp, offD p hp⟩
        have hdrop : ns.drop i = kn :: ns.drop (i + 1) := by
          obtain ⟨h1, h2⟩ := List.getElem?_eq_some_iff.1 hkn
          rw [List.drop_eq_getElem_cons h1, h2]
        rw [hdrop, ebF, List.append_cons] at hfold
        refine wpAny_mono (turn i kn t tx e it oI oi H2.objs.size oC s₂.heap.objs.size _ ys h₄ tk₄ _ (by omega) hkn (List.mem_of_getElem? hkn) hoC (by simp [hab]) (by simp) F₄ N₄ off₄ ⟨heC, heD, Ne.symm hDC⟩) (fun y s₅ q₅ => ?_) fun _ _ x => x
        have stN : ∀ h₅ : Heap, h₅.get? e = some oI → h₅.get? it = some oi → (∀ b o, h₀.get? b = some o → h₅.get? b = some o) → (∃ old, IsEnum h₅ e it ((i + 1 : Nat) : Int) old) ∧ h₅.IsListIter it l (i + 1) ∧ h₅.IsList l vs.toArray :=
          fun h₅ h1 h2 h3 => ⟨hoI h₅ h1, ⟨oi, h2, hci, hdi⟩, hl₀.at fun o x => h3 l o x⟩
        obtain ⟨h₅, tk₅, news₅, rfl, F₅, N₅, _, _, rfl, rfl⟩ := q₅
        have zI := (N₅ (e, oI) List.mem_cons_self).1
        have zC := (N₅ (H2.objs.size, oC) (List.mem_cons_of_mem _ List.mem_cons_self)).1
        have zD := (N₅ (s₂.heap.objs.size, lst ys) (List.mem_cons_of_mem _ (List.mem_cons_of_mem _ List.mem_cons_self))).1
        have zi := (N₅ (it, oi) (List.mem_cons_of_mem _ (List.mem_cons_of_mem _ (List.mem_cons_of_mem _ List.mem_cons_self)))).1
        have N₅' : News h₀ L h₅ news := fun q hq => N₅ q (List.mem_cons_of_mem _ (List.mem_cons_of_mem _ (List.mem_cons_of_mem _ (List.mem_cons_of_mem _ hq))))
        refine append_at (hsz := by show ys.toArray.size ≤ sizeLine; rw [List.size_toArray]; exact Nat.le_trans (Nat.le_trans hyl hi') hsz) zD fun h₆ hs₆ hD₆ => ?_
        refine ⟨vs.length + 1 - (i + 1), by omega, h₆, tk₅, i + 1, ys ++ [.bool (g (i : Int) kn)], acc ++ [g (i : Int) kn], _, rfl, hlt, rfl, by rw [List.length_append, List.length_singleton]; exact Nat.succ_le_succ hyl,
          stN h₆ (hs₆.extBut e oI heD zI) (hs₆.extBut it oi hiD zi) (F₅.change hs₆ hDL hD₀).keep, F₅.change hs₆ hDL hD₀, (hoC.ns zC).sameBut hs₆ (Ne.symm hDC), fun q hq => ?_, kbo_app hy (.cons _ .nil), hfold⟩
        rcases List.mem_cons.mp hq with rfl | hq
        · exact ⟨hD₆.trans (congrArg some (lst_snoc ys _)), hDL, hD₀⟩
        · exact ⟨hs₆.extBut _ _ (offD q hq) (N₅' q hq).1, (N₅' q hq).2⟩
      · have hin : i = vs.length := Nat.le_antisymm hi' (Nat.not_lt.mp hlt)
        subst hin
        have hnil : ns.drop vs.length = [] := List.drop_eq_nil_of_le (Nat.le_of_eq hlen.symm)
        rw [hnil, ebF, List.append_nil] at hfold
        rw [← hvs] at hst'
        refine W.done _ _ _ hst' fun h₂ tk₂ hk₂ => ?_
        have up : ∀ c o, c ≠ e → c ≠ it → h'.get? c = some o → h₂.get? c = some o := fun c o h1 h2 x => hk₂ c o (by simp [h1, h2]) x
        refine hRR _ _ h₂ tk₂ _ ys ⟨F'.ns.at' fun o x => up _ o heL hiL x, fun c o x => up c o (fun q => by rw [q, he₀] at x; cases x) (fun q => by rw [q, hi₀] at x; cases x) (F'.keep c o x), F'.above⟩ (fun p hp => ?_) ?_ (hn'.at' fun o x => up _ o (Ne.symm heC) (Ne.symm hiC) x) hC₀ hD₀ hCL hDL (Ne.symm hDC) offC (hfold ▸ hy) hyl
        · rcases List.mem_cons.mp hp with rfl | hp
          · have z := N' _ List.mem_cons_self
            exact ⟨up _ _ (Ne.symm heD) (Ne.symm hiD) z.1, z.2⟩
          · have z := N' p (List.mem_cons_of_mem _ hp)
            exact ⟨up _ _ (offe p hp) (offi p hp) z.1, z.2⟩
        · exact Off3.one (I := e) (C := H2.objs.size) (Off3.of fun p hp => ⟨offe p hp, offC p hp, offD p hp⟩)
    · rcases List.mem_cons.mp hp with rfl | hp
      · exact ⟨hacc, hDL, hD₀⟩
      · exact ⟨old _ _ (N p hp).1, (N p hp).2⟩
  exact codeAny_compStart_list (loop _ rfl) (W.self 0 _ _ _ hst₁ (loop _ rfl))

/-- what the iterable must be: a fresh enumerate of an argument's list, with the turn and the end -/
def EbSrc (prog : Program) (w : World) (A : Around) (h₀ : Heap) (L : Addr) (m : Str → Option Value) (env : Env) (elt : PySem.Expr) (a b : Str) (scope : Scope) (cl : List (Str × Addr)) (Q : Value → Shared → Prop) (xv : Value) (s₁ : Shared) : Prop :=
  ∃ e it l vs ns news g, xv = .ref e ∧ A.handled = none ∧ e ≠ it ∧ l ≠ e ∧ l ≠ it ∧ h₀.IsList l vs.toArray ∧ IntsAre vs ns ∧ vs.length ≤ sizeLine ∧ ((∃ old, IsEnum s₁.heap e it ((0 : Nat) : Int) old) ∧ s₁.heap.IsListIter it l 0 ∧ s₁.heap.IsList l vs.toArray) ∧
    Fr h₀ L s₁.heap m ∧ News h₀ L s₁.heap news ∧ L ≠ e ∧ L ≠ it ∧ h₀.get? e = none ∧ h₀.get? it = none ∧ (∀ p ∈ news, p.1 ≠ e) ∧ (∀ p ∈ news, p.1 ≠ it) ∧
    EbTurn prog w A h₀ L m env elt a b scope cl g ns news s₁ ∧
    ∀ ys, BoolsAre ys (ebF g 0 ns) → ys.length ≤ vs.length → FinE h₀ L m s₁ Q ys news
theorem eb_ListComp {elt iter : PySem.Expr} {a b : Str} {pa pb tp : Pos} {kk : Nat} {scope : Scope} {cl : List (Str × Addr)} {pos : Pos} {Q : Value → Shared → Prop} (_F₀ : Fr h₀ L s.heap m)
    (hclos : closureFor scope env = pure cl) (hcell : ∀ y ∈ scope.names, y.2 ≠ .cell) (hkind : scope.kind = .function)
    (hnames : ∀ y ∈ scope.names, y.2 = .local → scope.names.lookup y.1 = some .local) (hxa : scope.names.lookup a = some .local) (hxb : scope.names.lookup b = some .local) (hab : ¬ a = b)
    (h : wpAny (model prog w) A (eval iter env) (EbSrc prog w A h₀ L m env elt a b scope cl Q) E s)
    (hs : ∀ x, foldedSetIterable iter env x = pure x := by intro _; rfl) :
    wpAny (model prog w) A (eval (.ListComp elt [⟨.Tuple [.Name a pa, .Name b pb] kk tp, iter, [], 0⟩] scope pos) env) Q E s := by
  rw [eval_ListComp]
  refine wpAny_comprehension_free (use := none) rfl hs hclos hkind hnames (wpAny_mono h (fun xv s₁ h₁ => ?_) fun _ _ x => x)
  obtain ⟨e, it, l, vs, ns, news, g, rfl, hh, hei, hle, hli, hl, hi, hsz, hst, F, N, heL, hiL, he₀, hi₀, offe, offi, turn, fin⟩ := h₁
  refine (WalksT.enumerate (prog := prog) (w := w) hh e it l hei hle hli vs.toArray).toU.self 0 _ _ _ hst ?_
  refine eb_block g hh hei hle hli hl hi hsz hst hcell hkind hxa hxb hab F N heL hiL he₀ hi₀ offe offi turn ?_
  intro D C h tk m' ys F' N' o1 hn hC₀ hD₀ hCL hDL hCD offC hy hyl
  refine ⟨m', hn, fun h'' hs'' => fin ys hy hyl D h'' tk (F'.change hs'' hCL hC₀) (fun p hp => ?_) o1⟩
  refine ⟨hs''.extBut _ _ ?_ (N' p hp).1, (N' p hp).2⟩
  rcases List.mem_cons.mp hp with rfl | hp
  · exact Ne.symm hCD
  · exact offC p hp
theorem eb_call {elt : PySem.Expr} {a b : Str} {scope : Scope} {cl : List (Str × Addr)} {Q : Value → Shared → Prop} {l : Addr} {vs : List Value} {ns : List Int} {news : List (Addr × Obj)} (g : Int → Int → Bool)
    (hh : A.handled = none) (F : Fr h₀ L s.heap m) (N : News h₀ L s.heap news) (hl : h₀.IsList l vs.toArray) (hi : IntsAre vs ns) (hsz : vs.length ≤ sizeLine)
    (h : ∀ gg : Heap, EbTurn prog w A h₀ L m env elt a b scope cl g ns news { s with heap := gg } ∧ ∀ ys, BoolsAre ys (ebF g 0 ns) → ys.length ≤ vs.length → FinE h₀ L m { s with heap := gg } Q ys news) :
    wpAny (model prog w) A (call (.type "enumerate") [.ref l]) (EbSrc prog w A h₀ L m env elt a b scope cl Q) E s := by
  have hls : s.heap.IsList l vs.toArray := hl.at fun o x => F.keep l o x
  have hlt : l < s.heap.objs.size := by obtain ⟨_, x, _⟩ := hls; exact Heap.lt_size x
  refine call_enumerate_list hls fun h' he hit hz hk => ?_
  have fresh₀ : ∀ a, s.heap.objs.size ≤ a → h₀.get? a = none := fun a ha => by
    cases x : h₀.get? a with
    | none => rfl
    | some o' => exact absurd (Heap.lt_size (F.keep a o' x)) (Nat.not_lt.mpr ha)
  have hLlt : L < s.heap.objs.size := F.ns.lt
  exact ⟨_, _, l, vs, ns, news, g, rfl, hh, Nat.succ_ne_self _, Nat.ne_of_lt (Nat.lt_succ_of_lt hlt), Nat.ne_of_lt hlt, hl, hi, hsz, ⟨⟨_, he⟩, hit, hls.at fun o x => hk l o x⟩,
    F.keeps hk, N.grown hk, Nat.ne_of_lt (Nat.lt_succ_of_lt hLlt), Nat.ne_of_lt hLlt, fresh₀ _ (Nat.le_succ _), fresh₀ _ (Nat.le_refl _), fun p hp => Nat.ne_of_lt (Nat.lt_succ_of_lt (Heap.lt_size (N p hp).1)), fun p hp => Nat.ne_of_lt (Heap.lt_size (N p hp).1), (h h').1, (h h').2⟩
end
end My

/- the two comprehensions of like: their sources, their ends -/
namespace My
section
open PySem PySem.W PySem.Calls PyProof.Rows PySem.Spec PyProof.Rows.LCg LSm
theorem one_size {n : Nat} : Builtin.Range.rangeSize 0 (n : Int) 1 = (n : Int) := by
  unfold Builtin.Range.rangeSize
  rw [if_pos (by decide)]
  split <;> omega
theorem one_small {n : Nat} (h : n ≤ 64) : Builtin.Range.small 0 (n : Int) 1 = true := by
  unfold Builtin.Range.small
  rw [one_size]
  have fits : ∀ i : Int, -1000 ≤ i → i ≤ 1000 → Builtin.Range.rangeFitsLong i = true := fun i a b => by
    unfold Builtin.Range.rangeFitsLong
    rw [Bool.and_eq_true, decide_eq_true_eq, decide_eq_true_eq]
    omega
  rw [fits 0 (by decide) (by decide), fits (n : Int) (by omega) (by omega), fits 1 (by decide) (by decide), if_pos (by decide), fits ((n : Int) + (1 - 1)) (by omega) (by omega)]
  simp
variable {prog : Program} {w : World} {A : Around} {E : Value → Shared → Prop} {s : Shared} {h₀ : Heap} {L : Addr} {m : Str → Option Value} {env : Env}
theorem cb_src {elt : PySem.Expr} {x : Str} {scope : Scope} {cl : List (Str × Addr)} {Fin : Shared → List Value → List (Addr × Obj) → Prop} {r : Addr} {n : Nat} {t u v : Tok} {news : List (Addr × Obj)} {s₁ : Shared} (g : Int → Bool)
    (hh : A.handled = none) (F : Fr h₀ L s₁.heap m) (N : News h₀ L s₁.heap news) (hr : IsRange s₁.heap r 0 (n : Int) 1 t u v) (h64 : n ≤ 64)
    (turn : ∀ gg k t I oI C oC D m₂ ys h tk (E' : Value → Shared → Prop), 0 ≤ k → k < (n : Int) → NsObj oC m₂ → m₂ x = some (.int k t) → Fr h₀ L h m → News h₀ L h ((I, oI) :: (C, oC) :: (D, lst ys) :: news) → Off3 I C D news → ((@Ne Nat I C) ∧ (@Ne Nat I D) ∧ (@Ne Nat C D)) →
      wpAny (model prog w) A (eval elt (compEnvC scope cl C env)) (CompEnd h₀ L m { ({ s₁ with heap := gg } : Shared) with heap := h, toks := tk } I oI C oC D (lst ys) (fun _ => True) (fun y news' => CbEl news (g k) y news')) E' { ({ s₁ with heap := gg } : Shared) with heap := h, toks := tk })
    (fin : ∀ gg ys, BoolsAre ys ((List.range n).map fun (i : Nat) => g (i : Int)) → Fin { s₁ with heap := gg } ys news) : CompSrc prog w A h₀ L m env elt x scope cl Fin (.ref r) s₁ := by
  refine CompSrc.range hh F N hr (one_small h64) one_size (by rw [PySem.sizeLine_eq]; omega) fun gg => ?_
  refine cb_range g (fun k t I oI C oC D m₂ ys h tk E' h0 h1 => turn gg k t I oI C oC D m₂ ys h tk E' h0 (by omega)) (fun ys hy => fin gg ys ?_)
  have e : (rangeKs 0 n).map g = (List.range n).map fun (i : Nat) => g (i : Int) := by
    unfold rangeKs
    rw [List.map_map]
    apply List.map_congr_left
    intro i _
    show g (0 + (i : Int)) = _
    rw [Int.zero_add]
  rw [← e]
  exact hy
theorem eq_star {t : List Int} {b : List Bool} {a : Int} (h : a = 257) : ((List.range b.length).map fun (i : Nat) => (fun k : Int => (b.take (k + 1).toNat).contains true) (i : Int)) = stepE t b a := by
  unfold stepE
  rw [if_pos h]
  apply List.map_congr_left
  intro i _
  have e : ((i : Int) + 1).toNat = i + 1 := by omega
  show (b.take ((i : Int) + 1).toNat).contains true = _
  rw [e]
/-- one mark, out of the marks b for the thing a asked for -/
def markG (b : List Bool) (a : Int) (i x : Int) : Bool := b.getD i.toNat false && (a == 256 || a == x)
theorem ebF_zip (a : Int) (b : List Bool) : ∀ (t : List Int) (i : Nat), i + t.length ≤ b.length → ebF (markG b a) i t = (t.zip (b.drop i)).map fun x => x.2 && (a == 256 || a == x.1)
  | [], _, _ => rfl
  | k :: r, i, h => by
    have hi : i < b.length := by simp only [List.length_cons] at h; omega
    rw [ebF, ebF_zip a b r (i + 1) (by simp only [List.length_cons] at h; omega), List.drop_eq_getElem_cons hi, List.zip_cons_cons, List.map_cons]
    congr 1
    show (b.getD ((i : Nat) : Int).toNat false && _) = _
    rw [Int.toNat_natCast, List.getD_eq_getElem?_getD, List.getElem?_eq_getElem hi]
    rfl
theorem eq_else {t : List Int} {b : List Bool} {a : Int} (h : ¬ a = 257) (hl : b.length = t.length + 1) : [false] ++ ebF (markG b a) 0 t = stepE t b a := by
  unfold stepE
  rw [if_neg h, ebF_zip a b t 0 (by omega), List.drop_zero]
  rfl
theorem lk_end {t : List Int} {I l cA cE : Addr} {it lo : Obj} {m₀ : Str → Option Value} {b : List Bool} {a : Int} {h' : Heap} {tk : Nat} {all : List (Addr × Obj)} {D : Addr} {ws : List Value} {c : Nat} {oA oE : Obj} {xA : Option Value} {bs : List Bool}
    (F : Fr h₀ L h' m₀) (N : News h₀ L h' all) (hI : (I, it) ∈ all) (hE : (cE, oE) ∈ all) (dE : oE.data = .cell (some (.ref D))) (hD : (D, listOf (List.toArray ws) c) ∈ all) (hl : (l, lo) ∈ all) (hA : (cA, oA) ∈ all) (dA : oA.data = .cell xA)
    (hb : BoolsAre ws bs) (e : bs = stepE t b a) (n1 : D ≠ I) (n2 : D ≠ l) (n3 : D ≠ cA) (n4 : D ≠ cE) :
    LkPost t h₀ L m₀ I it l cA cE lo b a s .next { s with heap := h', toks := tk } :=
  ⟨rfl, h', tk, D, ws, c, oA, oE, xA, rfl, F, fun p hp => by
    simp only [List.mem_cons, List.not_mem_nil, or_false] at hp
    rcases hp with rfl | rfl | rfl | rfl | rfl
    · exact N _ hI
    · exact N _ hD
    · exact N _ hl
    · exact N _ hA
    · exact N _ hE, dE, dA, e ▸ hb, n1, n2, n3, n4⟩
end
end My


namespace My
theorem w_bytes {l : List Int} (h : Codec.within (.list 0 31 (.int (Int.ofNat 0) (Int.ofNat 255))) l = true) : l.length ≤ 31 ∧ Bs l := by
  have h : (Codec.inNat 0 31 l.length && l.all (Codec.inInt 0 255)) = true := h
  have k := Codec.and_of h
  exact ⟨(Codec.inNat_iff.mp k.1).2, fun x hx => Codec.inInt_iff.mp (List.all_eq_true.mp k.2 x hx)⟩
theorem w_int {lo hi x : Int} (h : Codec.within (.int lo hi) x = true) : lo ≤ x ∧ x ≤ hi := Codec.inInt_iff.mp h
theorem fin {X Y : List Int} (h : X = Y) : WData.list (ofPys (X.map PyData.int)) = WData.list (Y.map WData.int) := by rw [os_ofPys_ints, h]
theorem fin1 {k : Int} {Y : List Int} (h : Y = [k]) : ofPy (PyData.list [PyData.int k]) = WData.list (Y.map WData.int) := by
  rw [h]
  exact os_list rfl
end My

theorem My.said : PySem.Challenge.rw_shorttextsdesk_s13_like.wellSaid = true := by decide +kernel
theorem My.bnd {x0 : List Int} {x1 : List Int} (h : PySem.Challenge.rw_shorttextsdesk_s13_like.pre [ofPy (.list (x0.map PyData.int)), ofPy (.list (x1.map PyData.int))] = true) :
    (x0.length ≤ 31 ∧ My.Bs x0) ∧ (x1.length ≤ 31 ∧ My.Bs x1) := by
  obtain ⟨a, w, q, e⟩ := os_pre My.said h
  obtain ⟨y0, y1, u⟩ := a
  have e0 := os_j_ints (List.cons.inj e).1
  have e1 := os_j_ints (List.cons.inj (List.cons.inj e).2).1
  subst e0 e1
  exact ⟨My.w_bytes (Codec.and_of w).1, My.w_bytes (Codec.and_of (Codec.and_of w).2).1⟩

theorem My.name {x0 : List Int} {x1 : List Int} (_ : PySem.Challenge.rw_shorttextsdesk_s13_like.pre [ofPy (.list (x0.map PyData.int)), ofPy (.list (x1.map PyData.int))] = true) : ∃ (t : List Int) (p : List Int), t = x0 ∧ p = x1 := ⟨_, _, rfl, rfl⟩

namespace My
theorem as_start {p : List Int} : ((([] : List Int).length : Nat) : Int) ≤ 0 ∧ (0 : Int) ≤ 0 ∧ (0 : Int) ≤ (p.length : Int) ∧ AskI p [] 0 := ⟨Int.le_refl _, Int.le_refl _, by omega, ask_start⟩
theorem as_go {p asked : List Int} {i j x : Int} (h1 : (asked.length : Int) ≤ i) (_h0 : 0 ≤ i) (hij : i < j) (hj : j ≤ (p.length : Int)) (I : AskI p (asked ++ [x]) j) :
    ((asked ++ [x]).length : Int) ≤ j ∧ 0 ≤ j ∧ j ≤ (p.length : Int) ∧ AskI p (asked ++ [x]) j := ⟨by rw [List.length_append, List.length_singleton]; omega, by omega, hj, I⟩
end My

namespace My
theorem el_no {b : List Bool} {a i x : Int} (h : ¬ b.getD i.toNat false = true) : markG b a i x = b.getD i.toNat false := by
  unfold markG
  rw [Bool.eq_false_iff.2 h]
  rfl
theorem el_yes {b : List Bool} {a i x : Int} (h : b.getD i.toNat false = true) : markG b a i x = ([256, x].any fun y => y == a) := by
  unfold markG
  rw [h, Bool.true_and, List.any_cons, List.any_cons, List.any_nil, Bool.or_false]
  rw [Bool.eq_iff_iff]
  simp only [Bool.or_eq_true, beq_iff_eq]
  omega
theorem lk_last {t : List Int} {b : List Bool} (h : b.length = t.length + 1) : b.getLastD false = b.getD ((t.length : Nat) : Int).toNat false := by
  rw [Int.toNat_natCast, List.getLastD_eq_getLast?, List.getLast?_eq_getElem?, List.getD_eq_getElem?_getD, h]
  rfl
theorem lk_one {t p : List Int} {b : List Bool} (ht : Bs t) (hp : Bs p) (e : b = (askZ p).foldl (stepE t) (true :: t.map fun _ => false)) (hl : b.length = t.length + 1) (h : b.getD ((t.length : Nat) : Int).toNat false = true) : PySv24.like t p = [1] := by
  rw [like_end ht hp, ← e, lk_last hl, if_pos h]
theorem lk_nil {t p : List Int} {b : List Bool} (ht : Bs t) (hp : Bs p) (e : b = (askZ p).foldl (stepE t) (true :: t.map fun _ => false)) (hl : b.length = t.length + 1) (h : ¬ b.getD ((t.length : Nat) : Int).toNat false = true) : PySv24.like t p = [0] := by
  rw [like_end ht hp, ← e, lk_last hl, if_neg h]
end My

namespace My
theorem news_cut {h₀ h : PySem.Heap} {L : PySem.Addr} {a b c d e f : PySem.Addr × PySem.Obj} (N : PyProof.Rows.News h₀ L h [a, b, c, d, e, f]) : PyProof.Rows.News h₀ L h [a, e, f] := fun p hp => N p (by
  simp only [List.mem_cons, List.not_mem_nil, or_false] at hp ⊢
  rcases hp with h | h | h <;> simp [h])
theorem start_eq {t : List Int} : [true] ++ (List.replicate ((t.length : Nat) : Int).toNat [false]).flatten = true :: t.map fun _ => false := by
  rw [Int.toNat_natCast, List.singleton_append]
  congr 1
  induction t with
  | nil => rfl
  | cons a r ih => rw [List.length_cons, List.replicate_succ, List.flatten_cons, ih]; rfl
theorem start_bools {t : List Int} {ws : List PySem.Value} (h : PyProof.Rows.LSm.BoolsAre ws ([true] ++ (List.replicate ((t.length : Nat) : Int).toNat [false]).flatten)) : PyProof.Rows.LSm.BoolsAre ws (true :: t.map fun _ => false) := start_eq ▸ h
end My

open PySem.W PyProof.Rows in
local macro_rules
  | `(tactic| walk_at "binaryOp Mult ref int") => `(tactic| (k_here; (with_reducible show wpAny _ _ (binaryOp Operator.Mult (Value.ref _) (Value.int _ _)) _ _ _); (refine' kbo_mul (vs := [.bool false]) (bs := [false]) ?bm1 ?bm2 ?bm3 (.cons _ .nil) ?bm4 ?bm5 ?bm6 ?_; (case bm1 => k_asm); (case bm2 => k_asm); (case bm3 => kmk_list); (case bm4 => omega); (case bm5 => omega); (case bm6 => (show 1 * _ ≤ _; omega))); (intro D' h' F' N' l1 i1 n1 s1 e1 e2 e3 e4); (try k_lt l1); (try simp only [List.length_cons, List.length_nil] at e3); clear s1))
open PySem.W PyProof.Rows in
local macro_rules
  | `(tactic| walk_at "binaryOp Add ref ref") => `(tactic| (k_here; (with_reducible show wpAny _ _ (binaryOp _ (Value.ref _) (Value.ref _)) _ _ _); k_dflt (refine' My.bo_add (vs := [.bool _]) (bs := [_]) ?ba1 ?ba2 ?ba3 ?ba4 (.cons _ .nil) ?ba6 ?ba7 ?_; (case ba1 => k_asm); (case ba2 => k_asm); (case ba3 => kmk_list); (case ba4 => kmk_list); (case ba6 => kbo_bools); (case ba7 => (simp only [sizeLine_eq, List.length_cons, List.length_nil, My.ebF_len]; omega))); intro D' ws' h' F' N' l1 hI'; (try k_lt l1); (try k_sweep)))
open PySem.W PyProof.Rows in
local macro_rules
  | `(tactic| walk_at "exec For") => `(tactic| ((with_reducible show wpAny _ _ (exec (Stmt.For _ _ _ _ _) _) _ _ _); (rename PyProof.Rows.Fr _ _ _ _ => lF7); (rename PyProof.Rows.News _ _ _ _ => lN9); (have lN8 := My.news_cut lN9); clear lN9; (rename LSm.BoolsAre _ ([true] ++ _) => lB9); (have lB8 := My.start_bools lB9); clear lB9; (rename LSm.BoolsAre (List.flatten _) _ => lB7); clear lB7; (with_unfolding_all refine PyProof.Rows.For_invTF lF7 ?_ (fun _ => rfl))))

open PySem.W PyProof.Rows in
local macro_rules
  | `(tactic| walk_at "eval ListComp") => `(tactic| (k_here; k_dflt (first
    | ((with_reducible show wpAny _ _ (eval (PySem.Expr.ListComp _ [⟨PySem.Expr.Tuple _ _ _, _, _, _⟩] _ _) _) _ _ _); refine My.eb_ListComp (by k_asm) (by with_unfolding_all rfl) (by decide) (by rfl) (by decide) (by rfl) (by rfl) (by decide) ?_)
    | ((with_reducible show wpAny _ _ (eval (PySem.Expr.ListComp _ [⟨PySem.Expr.Name _ _, _, _, _⟩] _ _) _) _ _ _); refine LCg.ListComp_U (F₀ := by k_asm) (by with_unfolding_all rfl) (by decide) (by rfl) (by decide) (by rfl) ?_))))
open PySem.W PyProof.Rows in
local macro_rules
  | `(tactic| walk_at "CompSrc") => `(tactic| (k_here; k_dflt (refine My.cb_src (n := List.length $(Lean.mkIdent `kB)) (fun k => (List.take (k + 1).toNat $(Lean.mkIdent `kB)).contains true) (by rfl) (by k_asm) (by k_asm) (by assumption) (by omega) (fun gg' k' t' I' oI' C' oC' D' m' ys' h' tk' E' hlo' hhi' hC' hx' F' N' off' ne' => ?_) (fun gg' ys' hy' => ?_))))
open PySem.W PyProof.Rows in
local macro_rules
  | `(tactic| walk_at "subscriptTail Name Slice ref ref") => `(tactic| (k_here; (with_reducible show wpAny _ _ (subscriptTail _ (PySem.Expr.Slice _ _ _ _) (Value.ref _) (Value.ref _)) _ _ _); k_dflt (refine' My.bo_slice ?bs1 ?bs2 ?bs3 ?bs4 ?bs5 ?bs6 ?bs7 ?_ ?bs8 ?bs9; (case bs1 => k_asm); (case bs2 => k_asm); (case bs3 => kmk_list); (case bs4 => with_reducible assumption); (case bs5 => omega); (case bs6 => omega); (case bs7 => omega); (case bs8 => with_unfolding_all rfl); (case bs9 => kmk_pure)); intro D' ws' h' F' N' l1 hI'; (try k_lt l1); (try k_sweep)))
open PySem.W PyProof.Rows in
local macro_rules
  | `(tactic| walk_at "compareOp In bool ref") => `(tactic| (k_here; (with_reducible show wpAny _ _ (compareOp CmpOp.In (Value.bool _) (Value.ref _)) _ _ _); k_dflt (refine' My.bo_in ?bi1 ?bi2 ?_; (case bi1 => kmk_list); (case bi2 => with_reducible assumption))))
open PySem.W PyProof.Rows in
local macro_rules
  | `(tactic| walk_at "CompEnd") => `(tactic| first
    | exact My.cb_end (by assumption) (by assumption) (by kcf_all) (by assumption) True.intro rfl
    | exact My.cb_end (by assumption) (by assumption) (by kcf_all) (by assumption) True.intro (My.el_no (by first | assumption | exact ne_true_of_eq_false (by assumption)))
    | exact My.cb_end (by assumption) (by assumption) (by kcf_all) (by assumption) True.intro (My.el_yes (by assumption)))
open PySem.W PyProof.Rows in
local macro_rules
  | `(tactic| walk_at "LkPost") => `(tactic| ((rename PyProof.Rows.Fr _ _ _ _ => lF9); (rename PyProof.Rows.News _ _ _ _ => lN9); (with_unfolding_all exact My.lk_end lF9 lN9 (by k_mem) (by k_mem) (by assumption) (by k_mem) (by k_mem) (by k_mem) (by assumption) (by assumption) (by first | exact My.eq_star (by assumption) | exact My.eq_else (by assumption) (by assumption)) (by k_ne) (by k_ne) (by k_ne) (by k_ne))))

open PySem.W PyProof.Rows in
local macro_rules
  | `(tactic| walk_at "call type:enumerate") => `(tactic| (k_here; k_dflt (refine My.eb_call (My.markG $(Lean.mkIdent `kB) $(Lean.mkIdent `kA)) (by rfl) (by k_asm) (by k_asm) (by assumption) (by assumption) (by size_fits) ?_); intro g'; (refine ⟨?_, ?_⟩); (focus (unfold My.EbTurn; intro i' k' t' u' e' it' oI' oi' C' oC' D' m' ys' h' tk' E' hi' hk' hm' hC' ha' hb' F' N' off' ne')); (rotate_left); (intro ys' hy' hyl'); (rotate_left)))

set_option maxRecDepth 100000 in
set_option maxHeartbeats 8000000 in
theorem PySem.Challenge.cw_shorttextsdesk_s13_like_holds : PySem.Challenge.rw_shorttextsdesk_s13_like.Holds := by
  k_with "state" => first
    | exact My.as_start
    | exact My.as_go (by assumption) (by assumption) (by omega) (by omega) (My.ask_esc (by assumption) (by assumption) (by omega) (by assumption))
    | exact My.as_go (by assumption) (by assumption) (by omega) (by omega) (My.ask_any (by assumption) (by assumption) (by omega) (by assumption))
    | exact My.as_go (by assumption) (by assumption) (by omega) (by omega) (My.ask_run (by assumption) (by assumption) (by omega) (by assumption))
    | exact My.as_go (by assumption) (by assumption) (by omega) (by omega) (My.ask_byte (by assumption) (by assumption) (by omega) (by assumption) (by assumption) (by first | exact Or.inl (by assumption) | exact Or.inr (by omega)))
  k_with "exec While Compare cons nil" => k_while (fun _ asked place => (asked.length : Int) ≤ place ∧ 0 ≤ place ∧ place ≤ (p.length : Int) ∧ My.AskI p asked place) (fun _ _ place => (p.length - place).toNat) "asked" "place"
  k_with "pyIter ref" => ((with_reducible show wpAny _ _ (pyIter (Value.ref _)) (fun it s₂ => PyProof.Rows.LoopAtT _ _ _ _ _ _ _ _ _ it s₂) _ _); k_here; (have kQ := My.ask_done (by assumption) (by assumption)); subst kQ; (rename PyProof.Rows.Fr _ _ _ _ => lF'); (rename PyProof.Rows.News _ _ _ _ => lN'); (with_unfolding_all refine' My.lk_loop (t := t) (by rfl) lF' lN' (by rfl) (by assumption) (by assumption) (by assumption) (by assumption) (by simp) (by k_ne) (by k_ne) (by k_ne) (by k_ne) (by k_ne) (by k_ne) ?kturn ?kdone); (case' kturn => intro kA kTa kB kD kWs kC kOA kOE kXA kI kIt kH kG kDr kTk kOs kMem kBs kLn kDE kDA kCls kN1 kN2 kN3 kN4 kN5 kN6 kN7 kN8 kN9 kN10 kFr kNews); (case' kdone => intro kB kD kWs kC kOA kOE kH kTk kEq kLn kBs kDE kN7 kFr kNews); (all_goals (try clear lF' lN')))
  w_on; k_headS; (case hw => exact ⟨[.list [], .list []], by decide +kernel, by decide +kernel⟩)
  k_goS0
  (with_reducible rename OpenSpec.pre _ _ = true => hcP)
  obtain ⟨⟨hL0, hB0⟩, ⟨hL1, hB1⟩⟩ := My.bnd hcP
  obtain ⟨t, p, hn0, hn1⟩ := My.name hcP
  subst hn0 hn1
  (all_goals try k_fold); k_steps; (all_goals (try (w_end; sp_is; wrow_close))); (all_goals (try k_data))
  all_goals first | sp_left | w_report
  all_goals os_open My.said with a w q e
  all_goals obtain ⟨y0, y1, u⟩ := a
  all_goals have e0 := os_j_ints (List.cons.inj e).1
  all_goals have e1 := os_j_ints (List.cons.inj (List.cons.inj e).2).1
  all_goals subst e0 e1
  all_goals show _ = WData.list (List.map WData.int (PySv24.like t p))
  all_goals first
    | exact My.fin1 (My.lk_one hB0 hB1 kEq kLn (by assumption))
    | exact My.fin1 (My.lk_nil hB0 hB1 kEq kLn (by first | assumption | exact ne_true_of_eq_false (by assumption)))
#print axioms PySem.Challenge.cw_shorttextsdesk_s13_like_holds
