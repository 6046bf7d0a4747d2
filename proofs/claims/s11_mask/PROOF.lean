import PyProof.Rows.All
import KE.OsGo
import KE.OsArgs
import PySem.Challenge.RW_shorttextsdesk_s11_mask
open PySem PySem.W
set_option Elab.async false
namespace My
/-! ## numbers from 0 on, bytes as whole numbers -/
def Nn (l : List Int) : Prop := ∀ x ∈ l, (0 : Int) ≤ x
def Bs (l : List Int) : Prop := ∀ x ∈ l, (0 : Int) ≤ x ∧ x ≤ 255
theorem Bs.nn {l : List Int} (h : Bs l) : Nn l := fun x hx => (h x hx).1
theorem Nn.take {l : List Int} (h : Nn l) (k : Nat) : Nn (l.take k) := fun x hx => h x (List.mem_of_mem_take hx)
theorem Nn.drop {l : List Int} (h : Nn l) (k : Nat) : Nn (l.drop k) := fun x hx => h x (List.mem_of_mem_drop hx)
theorem Nn.app {a b : List Int} (ha : Nn a) (hb : Nn b) : Nn (a ++ b) := fun x hx => (List.mem_append.1 hx).elim (ha x) (hb x)
theorem Nn.tail {a : Int} {l : List Int} (h : Nn (a :: l)) : Nn l := fun x hx => h x (List.mem_cons_of_mem _ hx)
theorem Nn.head {a : Int} {l : List Int} (h : Nn (a :: l)) : 0 ≤ a := h a List.mem_cons_self
theorem Bs.take {l : List Int} (h : Bs l) (k : Nat) : Bs (l.take k) := fun x hx => h x (List.mem_of_mem_take hx)
theorem Bs.drop {l : List Int} (h : Bs l) (k : Nat) : Bs (l.drop k) := fun x hx => h x (List.mem_of_mem_drop hx)
theorem Bs.tail {a : Int} {l : List Int} (h : Bs (a :: l)) : Bs l := fun x hx => h x (List.mem_cons_of_mem _ hx)
theorem Bs.head {a : Int} {l : List Int} (h : Bs (a :: l)) : 0 ≤ a ∧ a ≤ 255 := h a List.mem_cons_self
abbrev nz (l : List Int) : List Nat := Sv24Neutral.n l
theorem nz_nil : nz [] = [] := rfl
theorem nz_cons (a : Int) (l : List Int) : nz (a :: l) = a.toNat :: nz l := rfl
theorem nz_len (l : List Int) : (nz l).length = l.length := by simp [nz, Sv24Neutral.n]
theorem nz_back {l : List Int} (h : Nn l) : Sv24.numbers (nz l) = l := by
  induction l with
  | nil => rfl
  | cons a r ih =>
    have h2 := ih h.tail
    have h1 := h.head
    show ((a.toNat : Nat) : Int) :: Sv24.numbers (nz r) = _
    rw [h2, Int.toNat_of_nonneg h1]
theorem nz_app (a b : List Int) : nz a ++ nz b = nz (a ++ b) := by simp [nz, Sv24Neutral.n]
theorem nz_take (k : Nat) (a : List Int) : (nz a).take k = nz (a.take k) := by simp [nz, Sv24Neutral.n, List.map_take]
theorem nz_drop (k : Nat) (a : List Int) : (nz a).drop k = nz (a.drop k) := by simp [nz, Sv24Neutral.n, List.map_drop]
theorem nz_rev (a : List Int) : (nz a).reverse = nz a.reverse := by simp [nz, Sv24Neutral.n, List.map_reverse]
theorem nz_inj {a b : List Int} (ha : Nn a) (hb : Nn b) : nz a = nz b ↔ a = b :=
  ⟨fun h => by rw [← nz_back ha, ← nz_back hb, h], fun h => by rw [h]⟩
theorem nz_eqnil (a : List Int) : nz a = [] ↔ a = [] := by cases a <;> simp [nz, Sv24Neutral.n]
theorem nz_mem {l : List Int} (h : Nn l) {c : Int} (hc : 0 ≤ c) : c.toNat ∈ nz l ↔ c ∈ l := by
  constructor
  · intro hm
    obtain ⟨x, hx, he⟩ := List.mem_map.1 hm
    have := h x hx
    have : x = c := by omega
    exact this ▸ hx
  · intro hm
    exact List.mem_map.2 ⟨c, hm, rfl⟩
theorem nz_has {l : List Int} (h : Nn l) {c : Int} (hc : 0 ≤ c) : (nz l).contains c.toNat = l.contains c := by
  rw [Bool.eq_iff_iff, List.contains_iff_mem, List.contains_iff_mem, nz_mem h hc]
theorem nz_map {f : Nat → Nat} {g : Int → Int} : ∀ {l : List Int}, (∀ x ∈ l, f x.toNat = (g x).toNat) → (nz l).map f = nz (l.map g)
  | [], _ => rfl
  | a :: r, h => by
    rw [nz_cons, List.map_cons, List.map_cons, nz_cons, h a List.mem_cons_self, nz_map (fun x hx => h x (List.mem_cons_of_mem _ hx))]
theorem nz_filter {f : Nat → Bool} {g : Int → Bool} : ∀ {l : List Int}, (∀ x ∈ l, f x.toNat = g x) → (nz l).filter f = nz (l.filter g)
  | [], _ => rfl
  | a :: r, h => by
    rw [nz_cons, List.filter_cons, List.filter_cons, h a List.mem_cons_self, nz_filter (fun x hx => h x (List.mem_cons_of_mem _ hx))]
    split <;> rfl
theorem nz_dropWhile {f : Nat → Bool} {g : Int → Bool} : ∀ {l : List Int}, (∀ x ∈ l, f x.toNat = g x) → (nz l).dropWhile f = nz (l.dropWhile g)
  | [], _ => rfl
  | a :: r, h => by
    rw [nz_cons, List.dropWhile_cons, List.dropWhile_cons, h a List.mem_cons_self, nz_dropWhile (fun x hx => h x (List.mem_cons_of_mem _ hx))]
    split <;> rfl
/-- a text's answer -/
def tell (l : List Int) : List Int := ((l.take 31).length : Int) :: l.take 31
theorem told {l : List Int} (h : Nn l) : (Sv24.text (nz l)).v :: (Sv24.text (nz l)).l = tell l := by
  show (((Sv24.cut (nz l)).length : Nat) : Int) :: Sv24.numbers (Sv24.cut (nz l)) = _
  have e : Sv24.cut (nz l) = nz (l.take 31) := nz_take 31 l
  rw [e, nz_len, nz_back (h.take 31)]
  rfl
theorem tell_short {l : List Int} (h : l.length ≤ 31) : tell l = (l.length : Int) :: l := by
  unfold tell; rw [List.take_of_length_le h]
/-! ## the calls over whole numbers -/
theorem join_eq {a b : List Int} (ha : Nn a) (hb : Nn b) : PySv24.join a b = tell (a ++ b) := by
  show (Sv24.text (nz a ++ nz b)).v :: (Sv24.text (nz a ++ nz b)).l = _
  rw [nz_app]
  exact told (ha.app hb)
theorem part_eq {t : List Int} {i k : Int} (ht : Nn t) : PySv24.part i k t = tell ((t.drop (max i 0).toNat).take (max 0 (i + max k 0) - max i 0).toNat) := by
  show (Sv24.text (((nz t).drop (max i 0).toNat).take (max 0 (i + max k 0) - max i 0).toNat)).v :: (Sv24.text (((nz t).drop (max i 0).toNat).take (max 0 (i + max k 0) - max i 0).toNat)).l = _
  rw [nz_drop, nz_take]
  exact told ((ht.drop _).take _)
theorem turn_eq {t : List Int} (ht : Nn t) : PySv24.turn t = tell t.reverse := by
  show (Sv24.text (nz t).reverse).v :: (Sv24.text (nz t).reverse).l = _
  rw [nz_rev]
  exact told (fun x hx => ht x (List.mem_reverse.1 hx))
theorem only_eq {t s : List Int} {how : Int} (ht : Nn t) (hs : Nn s) : PySv24.only how t s = tell (t.filter fun c => s.contains c == decide (how = 0)) := by
  show (Sv24.text ((nz t).filter fun c => (nz s).contains c == decide (how = 0))).v :: (Sv24.text ((nz t).filter fun c => (nz s).contains c == decide (how = 0))).l = _
  rw [nz_filter (g := fun c => s.contains c == decide (how = 0)) (fun x hx => by rw [nz_has hs (ht x hx)])]
  exact told (fun x hx => ht x (List.mem_filter.1 hx).1)
theorem mask_go {s : List Int} (hs : Nn s) : ∀ {t : List Int}, Nn t → ((List.range t.length).map fun i => if (nz s).contains ((nz t).getD i 0) = true then 2 ^ i else 0) = ((List.range t.length).map fun i => if s.contains (t.getD i 0) = true then 2 ^ i else 0) := by
  intro t ht
  apply List.map_congr_left
  intro i hi
  have hi := List.mem_range.1 hi
  have e : (nz t).getD i 0 = (t.getD i 0).toNat := by
    simp [nz, Sv24Neutral.n, List.getD_eq_getElem?_getD, hi]
  have h0 : 0 ≤ t.getD i 0 := by
    rw [List.getD_eq_getElem?_getD, List.getElem?_eq_getElem hi]
    exact ht _ (List.getElem_mem hi)
  rw [e, nz_has hs h0]
/-- bits from the place k on -/
def bitsFrom (s : List Int) : Nat → List Int → Int
  | _, [] => 0
  | k, c :: r => (if s.contains c = true then (2 : Int) ^ k else 0) + bitsFrom s (k + 1) r
theorem bits_range (s : List Int) : ∀ (t : List Int) (k : Nat), bitsFrom s k t = ((((List.range t.length).map fun i => if s.contains (t.getD i 0) = true then 2 ^ (k + i) else 0).sum : Nat) : Int)
  | [], _ => rfl
  | c :: r, k => by
    have ih := bits_range s r (k + 1)
    rw [bitsFrom, ih, List.length_cons, List.range_succ_eq_map, List.map_cons, List.map_map, List.sum_cons, Int.natCast_add]
    congr 1
    · show _ = (((if s.contains c = true then 2 ^ (k + 0) else 0) : Nat) : Int)
      split <;> simp
    · congr 1
      apply congrArg
      apply List.map_congr_left
      intro i _
      show _ = if s.contains (r.getD i 0) = true then 2 ^ (k + (i + 1)) else 0
      rw [Nat.add_right_comm, Nat.add_assoc]
theorem mask_eq {t s : List Int} (ht : Nn t) (hs : Nn s) : PySv24.mask t s = [bitsFrom s 0 t] := by
  show [((Sv24.mask (nz t) (nz s) : Nat) : Int)] = _
  unfold Sv24.mask
  rw [nz_len, mask_go hs ht, bits_range]
  simp only [Nat.zero_add]
/-! ### case -/
def smallZ (c : Int) : Int := if 65 ≤ c ∧ c ≤ 90 then c + 32 else c
def capZ (c : Int) : Int := if 97 ≤ c ∧ c ≤ 122 then c - 32 else c
def otherZ (c : Int) : Int := if 65 ≤ c ∧ c ≤ 90 then c + 32 else capZ c
def letterZ (c : Int) : Bool := (decide (65 ≤ c) && decide (c ≤ 90)) || (decide (97 ≤ c) && decide (c ≤ 122))
theorem small_z {c : Int} (h : 0 ≤ c) : Sv24.small c.toNat = (smallZ c).toNat := by
  unfold Sv24.small smallZ; split <;> split <;> omega
theorem cap_z {c : Int} (h : 0 ≤ c) : Sv24.capital c.toNat = (capZ c).toNat := by
  unfold Sv24.capital capZ; split <;> split <;> omega
theorem other_z {c : Int} (h : 0 ≤ c) : (if 65 ≤ c.toNat ∧ c.toNat ≤ 90 then c.toNat + 32 else Sv24.capital c.toNat) = (otherZ c).toNat := by
  unfold otherZ; rw [cap_z h]; split <;> split <;> omega
theorem letter_z {c : Int} (h : 0 ≤ c) : Sv24.letter c.toNat = letterZ c := by
  unfold Sv24.letter letterZ
  have e1 : (65 ≤ c.toNat) = (65 ≤ c) := by apply propext; omega
  have e2 : (c.toNat ≤ 90) = (c ≤ 90) := by apply propext; omega
  have e3 : (97 ≤ c.toNat) = (97 ≤ c) := by apply propext; omega
  have e4 : (c.toNat ≤ 122) = (c ≤ 122) := by apply propext; omega
  simp only [e1, e2, e3, e4]
theorem small_nn {c : Int} (h : 0 ≤ c) : 0 ≤ smallZ c := by unfold smallZ; split <;> omega
theorem cap_nn {c : Int} (h : 0 ≤ c) : 0 ≤ capZ c := by unfold capZ; split <;> omega
theorem other_nn {c : Int} (h : 0 ≤ c) : 0 ≤ otherZ c := by unfold otherZ capZ; split <;> (try split) <;> omega
def titledZ : Bool → List Int → List Int
  | _, [] => []
  | b, c :: r => (if b = true then smallZ c else capZ c) :: titledZ (letterZ c) r
theorem titled_z : ∀ {l : List Int} {b : Bool}, Nn l → Sv24.titled b (nz l) = nz (titledZ b l) ∧ Nn (titledZ b l)
  | [], b, _ => ⟨by cases b <;> rfl, by cases b <;> exact fun x hx => (nomatch hx)⟩
  | c :: r, b, h => by
    obtain ⟨e, hn⟩ := titled_z (b := letterZ c) h.tail
    constructor
    · rw [nz_cons, Sv24.titled, titledZ, nz_cons, letter_z h.head, e, small_z h.head, cap_z h.head]
      cases b <;> rfl
    · intro x hx
      rw [titledZ] at hx
      rcases List.mem_cons.1 hx with rfl | hx
      · cases b
        · exact cap_nn h.head
        · exact small_nn h.head
      · exact hn x hx
def casedZ (how : Int) (t : List Int) : List Int := if how = 0 then t.map smallZ else if how = 1 then t.map capZ else if how = 2 then t.map otherZ else if how = 3 then titledZ false t else t
theorem nn_map {l : List Int} {g : Int → Int} (h : Nn l) (hg : ∀ c, 0 ≤ c → 0 ≤ g c) : Nn (l.map g) := by
  intro x hx
  obtain ⟨y, hy, rfl⟩ := List.mem_map.1 hx
  exact hg y (h y hy)
theorem cased_eq {how : Int} {t : List Int} (ht : Nn t) : PySv24.cased how t = tell (casedZ how t) := by
  show (Sv24.text (Sv24.cased (nz t) how)).v :: (Sv24.text (Sv24.cased (nz t) how)).l = _
  have e : Sv24.cased (nz t) how = nz (casedZ how t) ∧ Nn (casedZ how t) := by
    unfold Sv24.cased casedZ
    split
    · exact ⟨nz_map (fun x hx => small_z (ht x hx)), nn_map ht (fun c h => small_nn h)⟩
    · split
      · exact ⟨nz_map (fun x hx => cap_z (ht x hx)), nn_map ht (fun c h => cap_nn h)⟩
      · split
        · exact ⟨nz_map (fun x hx => other_z (ht x hx)), nn_map ht (fun c h => other_nn h)⟩
        · split
          · exact titled_z ht
          · exact ⟨rfl, ht⟩
  rw [e.1]
  exact told e.2
/-! ### trim -/
def trimZ (how : Int) (t s : List Int) : List Int :=
  let a := if how % 2 = 1 then t.dropWhile s.contains else t
  if how / 2 % 2 = 1 then (a.reverse.dropWhile s.contains).reverse else a
theorem nn_sub {a b : List Int} (h : Nn b) (hs : a.Sublist b) : Nn a := fun x hx => h x (hs.subset hx)
theorem trim_eq {how : Int} {t s : List Int} (ht : Nn t) (hs : Nn s) : PySv24.trim how t s = tell (trimZ how t s) := by
  show (Sv24.text (Sv24.trim (nz t) (nz s) how)).v :: (Sv24.text (Sv24.trim (nz t) (nz s) how)).l = _
  have hc : ∀ {l : List Int}, Nn l → (nz l).dropWhile (nz s).contains = nz (l.dropWhile s.contains) := fun h => nz_dropWhile (fun x hx => nz_has hs (h x hx))
  have e : Sv24.trim (nz t) (nz s) how = nz (trimZ how t s) ∧ Nn (trimZ how t s) := by
    unfold Sv24.trim trimZ
    have h1 : (if how % 2 = 1 then (nz t).dropWhile (nz s).contains else nz t) = nz (if how % 2 = 1 then t.dropWhile s.contains else t) := by
      split
      · exact hc ht
      · rfl
    have h2 : Nn (if how % 2 = 1 then t.dropWhile s.contains else t) := by
      split
      · exact nn_sub ht (List.dropWhile_sublist _)
      · exact ht
    dsimp only
    rw [h1]
    generalize (if how % 2 = 1 then t.dropWhile s.contains else t) = a at h2
    have h3 : Nn a.reverse := fun x hx => h2 x (List.mem_reverse.1 hx)
    split
    · rw [nz_rev, hc h3, nz_rev]
      exact ⟨rfl, fun x hx => nn_sub h3 (List.dropWhile_sublist _) x (List.mem_reverse.1 hx)⟩
    · exact ⟨rfl, h2⟩
  rw [e.1]
  exact told e.2
/-! ### compare -/
def beforeZ : List Int → List Int → Bool
  | a :: r, b :: s => decide (a < b) || (a == b && beforeZ r s)
  | [], _ :: _ => true
  | _, [] => false
theorem before_z : ∀ {a b : List Int}, Nn a → Nn b → Sv24.before (nz a) (nz b) = beforeZ a b
  | [], [], _, _ => rfl
  | [], _ :: _, _, _ => rfl
  | _ :: _, [], _, _ => rfl
  | x :: r, y :: s, ha, hb => by
    rw [nz_cons, nz_cons, Sv24.before, beforeZ, before_z ha.tail hb.tail]
    have h1 := ha.head
    have h2 := hb.head
    have e1 : (x.toNat < y.toNat) = (x < y) := by apply propext; omega
    have e2 : (x.toNat == y.toNat) = (x == y) := by rw [Bool.eq_iff_iff, beq_iff_eq, beq_iff_eq]; omega
    simp only [e1, e2]
def compareZ (how : Int) (a b : List Int) : Int :=
  let x := if how = 1 then a.map smallZ else a
  let y := if how = 1 then b.map smallZ else b
  if how ≠ 0 ∧ how ≠ 1 ∧ x.length ≠ y.length then (if x.length < y.length then -1 else 1) else if beforeZ x y = true then -1 else if beforeZ y x = true then 1 else 0
theorem compare_eq {how : Int} {a b : List Int} (ha : Nn a) (hb : Nn b) : PySv24.compare how a b = [compareZ how a b] := by
  show [Sv24.compare (nz a) (nz b) how] = _
  unfold Sv24.compare compareZ
  have h1 : ∀ {l : List Int}, Nn l → (if how = 1 then (nz l).map Sv24.small else nz l) = nz (if how = 1 then l.map smallZ else l) ∧ Nn (if how = 1 then l.map smallZ else l) := by
    intro l h
    split
    · exact ⟨nz_map (fun x hx => small_z (h x hx)), nn_map h (fun c h => small_nn h)⟩
    · exact ⟨rfl, h⟩
  dsimp only
  rw [(h1 ha).1, (h1 hb).1, nz_len, nz_len, before_z (h1 ha).2 (h1 hb).2, before_z (h1 hb).2 (h1 ha).2]
/-! ### pieces -/
def betweenZ : Nat → List Int → List Int → List Int → List (List Int)
  | 0, _, _, w => [w]
  | f + 1, t, p, w => match t with
    | [] => [w]
    | c :: r => if p.isPrefixOf t = true then w :: betweenZ f (t.drop p.length) p [] else betweenZ f r p (w ++ [c])
theorem prefix_z : ∀ {p t : List Int}, Nn p → Nn t → (nz p).isPrefixOf (nz t) = p.isPrefixOf t
  | [], _, _, _ => by rw [nz_nil, List.isPrefixOf, List.isPrefixOf]
  | _ :: _, [], _, _ => rfl
  | x :: r, y :: s, hp, ht => by
    rw [nz_cons, nz_cons, List.isPrefixOf, List.isPrefixOf, prefix_z hp.tail ht.tail]
    have h1 := hp.head
    have h2 := ht.head
    have e2 : (x.toNat == y.toNat) = (x == y) := by rw [Bool.eq_iff_iff, beq_iff_eq, beq_iff_eq]; omega
    rw [e2]
theorem nn_one {c : Int} (h : 0 ≤ c) : Nn [c] := fun x hx => by rcases List.mem_singleton.1 hx with rfl; exact h
theorem between_z : ∀ (f : Nat) {t p w : List Int}, Nn t → Nn p → Nn w → Sv24.between f (nz t) (nz p) (nz w) = (betweenZ f t p w).map nz ∧ ∀ x ∈ betweenZ f t p w, Nn x
  | 0, t, p, w, _, _, hw => by
    rw [Sv24.between, betweenZ]
    exact ⟨rfl, fun _ hx => by rcases List.mem_singleton.1 hx with rfl; exact hw⟩
  | f + 1, [], p, w, _, _, hw => by
    rw [nz_nil, Sv24.between, betweenZ]
    exact ⟨rfl, fun x hx => by rcases List.mem_singleton.1 hx with rfl; exact hw⟩
  | f + 1, c :: r, p, w, ht, hp, hw => by
    have e1 := between_z f (ht.drop p.length) hp (w := []) (fun x hx => (nomatch hx))
    have e2 := between_z f ht.tail hp (hw.app (nn_one ht.head))
    rw [nz_cons, Sv24.between, betweenZ, ← nz_cons, prefix_z hp ht]
    split
    · constructor
      · rw [nz_len, nz_drop, List.map_cons, ← e1.1]; rfl
      · intro x hx
        rcases List.mem_cons.1 hx with rfl | hx
        · exact hw
        · exact e1.2 x hx
    · constructor
      · rw [← e2.1, ← nz_app]; rfl
      · exact e2.2
def countZ (t p : List Int) : Int := if p = [] then (t.length : Int) + 1 else (((betweenZ (t.length + 1) t p []).length - 1 : Nat) : Int)
theorem nn_nil : Nn [] := fun x hx => (nomatch hx)
theorem count_eq {t p : List Int} (ht : Nn t) (hp : Nn p) : PySv24.count t p = [countZ t p] := by
  show [((Sv24.count (nz t) (nz p) : Nat) : Int)] = _
  unfold Sv24.count countZ
  simp only [nz_eqnil, nz_len]
  have e := (between_z (t.length + 1) ht hp nn_nil).1
  rw [nz_nil] at e
  rw [e, List.length_map]
  split
  · rw [Int.natCast_add]; rfl
  · rfl
def replaceZ (t p r : List Int) : List Int := if p = [] then t else r.intercalate (betweenZ (t.length + 1) t p [])
theorem nz_flat : ∀ (l : List (List Int)), (l.map nz).flatten = nz l.flatten
  | [] => rfl
  | a :: r => by rw [List.map_cons, List.flatten_cons, List.flatten_cons, nz_flat r, nz_app]
theorem nz_inter (r : List Int) : ∀ (l : List (List Int)), List.intersperse (nz r) (l.map nz) = (List.intersperse r l).map nz
  | [] => rfl
  | [_] => rfl
  | a :: b :: l => by
    have ih := nz_inter r (b :: l)
    rw [List.map_cons] at ih
    rw [List.map_cons, List.map_cons, List.intersperse_cons_cons, List.intersperse_cons_cons, ih]
    rfl
theorem nz_sep (r : List Int) : ∀ (l : List (List Int)), (nz r).intercalate (l.map nz) = nz (r.intercalate l) := by
  intro l
  unfold List.intercalate
  rw [← nz_flat, nz_inter]
theorem mem_sep {x : Int} {r : List Int} {l : List (List Int)} (h : x ∈ r.intercalate l) : x ∈ r ∨ ∃ y ∈ l, x ∈ y := by
  unfold List.intercalate at h
  obtain ⟨y, hy, hx⟩ := List.mem_flatten.1 h
  induction l with
  | nil => cases hy
  | cons a l ih =>
    cases l with
    | nil =>
      rw [List.intersperse_singleton] at hy
      rcases List.mem_singleton.1 hy with rfl
      exact .inr ⟨y, List.mem_cons_self, hx⟩
    | cons b l =>
      rw [List.intersperse_cons_cons] at hy
      rcases List.mem_cons.1 hy with rfl | hy
      · exact .inr ⟨y, List.mem_cons_self, hx⟩
      · rcases List.mem_cons.1 hy with rfl | hy
        · exact .inl hx
        · have h2 : x ∈ (List.intersperse r (b :: l)).flatten := List.mem_flatten.2 ⟨y, hy, hx⟩
          rcases ih h2 hy with h3 | ⟨z, hz, hxz⟩
          · exact .inl h3
          · exact .inr ⟨z, List.mem_cons_of_mem _ hz, hxz⟩
theorem replace_eq {t p r : List Int} (ht : Nn t) (hp : Nn p) (hr : Nn r) : PySv24.replace t p r = tell (replaceZ t p r) := by
  show (Sv24.text (Sv24.replace (nz t) (nz p) (nz r))).v :: (Sv24.text (Sv24.replace (nz t) (nz p) (nz r))).l = _
  have e := between_z (t.length + 1) ht hp nn_nil
  rw [nz_nil] at e
  have e2 : Sv24.replace (nz t) (nz p) (nz r) = nz (replaceZ t p r) ∧ Nn (replaceZ t p r) := by
    unfold Sv24.replace replaceZ
    simp only [nz_eqnil, nz_len]
    split
    · exact ⟨rfl, ht⟩
    · rw [e.1, nz_sep]
      refine ⟨rfl, fun x hx => ?_⟩
      rcases mem_sep hx with h | ⟨y, hy, h⟩
      · exact hr x h
      · exact e.2 y hy x h
  rw [e2.1]
  exact told e2.2
end My

namespace My
/-! ## trim, as the program walks it -/
theorem any_has (s : List Int) (c : Int) : (s.any fun x => x == c) = s.contains c := by
  induction s with
  | nil => rfl
  | cons a r ih =>
    rw [List.any_cons, List.contains_cons, ih]
    congr 1
    rw [Bool.eq_iff_iff, beq_iff_eq, beq_iff_eq]
    exact ⟨Eq.symm, Eq.symm⟩
structure TF (t s : List Int) (b : Int) : Prop where
  lo : 0 ≤ b
  hi : b ≤ (t.length : Int)
  eq : t.dropWhile s.contains = (t.drop b.toNat).dropWhile s.contains
theorem tf_start {t s : List Int} : TF t s 0 := ⟨Int.le_refl 0, by omega, rfl⟩
theorem drop_at {t : List Int} {b : Int} (h0 : 0 ≤ b) (h1 : b < (t.length : Int)) : t.drop b.toNat = t.getD b.toNat 0 :: t.drop (b.toNat + 1) := by
  have hb : b.toNat < t.length := by omega
  rw [List.drop_eq_getElem_cons hb, List.getD_eq_getElem?_getD, List.getElem?_eq_getElem hb]
  rfl
theorem tf_turn {t s : List Int} {b : Int} (I : TF t s b) (h : b < (t.length : Int)) (hc : s.contains (t.getD b.toNat 0) = true) : TF t s (b + 1) := by
  have := I.lo
  refine ⟨by omega, by omega, ?_⟩
  rw [I.eq, drop_at I.lo h, List.dropWhile_cons, if_pos hc, show (b + 1).toNat = b.toNat + 1 by omega]
theorem tf_all {t s : List Int} {b : Int} (I : TF t s b) (h : ¬ b < (t.length : Int)) : t.dropWhile s.contains = t.drop b.toNat := by
  have := I.lo
  rw [I.eq, List.drop_of_length_le (by omega)]; rfl
theorem tf_out {t s : List Int} {b : Int} (I : TF t s b) (h : b < (t.length : Int)) (hc : s.contains (t.getD b.toNat 0) = false) : t.dropWhile s.contains = t.drop b.toNat := by
  rw [I.eq, drop_at I.lo h, List.dropWhile_cons, hc, if_neg Bool.false_ne_true]
structure TE (t s : List Int) (b e : Int) : Prop where
  lo : b ≤ e
  hi : e ≤ (t.length : Int)
  eq : ((t.drop b.toNat).reverse.dropWhile s.contains) = ((t.take e.toNat).drop b.toNat).reverse.dropWhile s.contains
theorem te_start {t s : List Int} {b : Int} (hb : b ≤ (t.length : Int)) : TE t s b (t.length : Int) := ⟨hb, Int.le_refl _, by rw [Int.toNat_natCast, List.take_length]⟩
theorem take_at {t : List Int} {b e : Int} (h0 : 0 ≤ b) (h1 : b < e) (h2 : e ≤ (t.length : Int)) : (t.take e.toNat).drop b.toNat = (t.take (e - 1).toNat).drop b.toNat ++ [t.getD (e - 1).toNat 0] := by
  have he : (e - 1).toNat < t.length := by omega
  have e1 : e.toNat = (e - 1).toNat + 1 := by omega
  rw [e1, List.take_add_one, List.getElem?_eq_getElem he, List.getD_eq_getElem?_getD, List.getElem?_eq_getElem he]
  rw [List.drop_append_of_le_length (by rw [List.length_take]; omega)]
  rfl
theorem te_turn {t s : List Int} {b e : Int} (h0 : 0 ≤ b) (I : TE t s b e) (h : b < e) (hc : s.contains (t.getD (e - 1).toNat 0) = true) : TE t s b (e - 1) := by
  have := I.hi
  refine ⟨by omega, by omega, ?_⟩
  rw [I.eq, take_at h0 h I.hi, List.reverse_append, List.reverse_singleton, List.singleton_append, List.dropWhile_cons, if_pos hc]
theorem te_all {t s : List Int} {b e : Int} (I : TE t s b e) (h : ¬ b < e) : ((t.drop b.toNat).reverse.dropWhile s.contains).reverse = (t.take e.toNat).drop b.toNat := by
  have := I.lo
  rw [I.eq, show (t.take e.toNat).drop b.toNat = [] from List.drop_of_length_le (by rw [List.length_take]; omega)]
  rfl
theorem te_out {t s : List Int} {b e : Int} (h0 : 0 ≤ b) (I : TE t s b e) (h : b < e) (hc : s.contains (t.getD (e - 1).toNat 0) = false) : ((t.drop b.toNat).reverse.dropWhile s.contains).reverse = (t.take e.toNat).drop b.toNat := by
  rw [I.eq, take_at h0 h I.hi, List.reverse_append, List.reverse_singleton, List.singleton_append, List.dropWhile_cons, hc, if_neg Bool.false_ne_true, List.reverse_cons, List.reverse_reverse]
theorem cut_slice {t : List Int} {b e : Int} (h0 : 0 ≤ b) (h1 : b ≤ e) (h2 : e ≤ (t.length : Int)) : (t.drop b.toNat).take (min e.toNat t.length - b.toNat) = (t.take e.toNat).drop b.toNat := by
  rw [List.drop_take]
  congr 1
  omega
/-! ## mask, as the program walks it -/
def emFold (G : List Int → Int → Int → List Int) : Nat → List Int → List Int → List Int
  | _, acc, [] => acc
  | i, acc, k :: r => emFold G (i + 1) (G acc (i : Int) k) r
def maskG (s : List Int) (l : List Int) (i k : Int) : List Int := if s.contains k = true then l ++ [1 * 2 ^ i.toNat] else l
theorem mask_sum (s : List Int) : ∀ (t : List Int) (i : Nat) (acc : List Int), (emFold (maskG s) i acc t).sum = acc.sum + bitsFrom s i t
  | [], i, acc => by rw [emFold, bitsFrom]; omega
  | k :: r, i, acc => by
    rw [emFold, mask_sum s r, bitsFrom, maskG]
    split
    · rw [List.sum_append, List.sum_cons, List.sum_nil, Int.toNat_natCast]; omega
    · omega
/-! ## compare, as the program walks it -/
def orderZ (a b : List Int) : Int := if beforeZ a b = true then -1 else if beforeZ b a = true then 1 else 0
theorem before_len {a b : List Int} : beforeZ ((a.length : Int) :: a) ((b.length : Int) :: b) = (decide (a.length < b.length) || (decide (a.length = b.length) && beforeZ a b)) := by
  rw [beforeZ]
  congr 1
  · exact decide_eq_decide.2 (by omega)
  · congr 1
    rw [Bool.eq_iff_iff, beq_iff_eq, decide_eq_true_eq]; omega
theorem order_len {a b : List Int} {how : Int} (h0 : how ≠ 0) (h1 : how ≠ 1) : compareZ how a b = orderZ ((a.length : Int) :: a) ((b.length : Int) :: b) := by
  unfold compareZ orderZ
  dsimp only
  rw [if_neg h1, if_neg h1, before_len, before_len]
  by_cases hl : a.length = b.length
  · rw [if_neg (by rintro ⟨_, _, h⟩; exact h hl)]
    simp only [hl, Nat.lt_irrefl, decide_false, decide_true, Bool.false_or, Bool.true_and]
  · rw [if_pos ⟨h0, h1, hl⟩]
    have hl' : ¬ b.length = a.length := fun h => hl h.symm
    simp only [hl, hl', decide_false, Bool.false_and, Bool.or_false, decide_eq_true_eq]
    by_cases hlt : a.length < b.length
    · rw [if_pos hlt, if_pos hlt]
    · rw [if_neg hlt, if_neg hlt, if_pos (by omega)]
theorem order_bytes {a b : List Int} : compareZ 0 a b = orderZ a b := rfl
theorem order_small {a b : List Int} : compareZ 1 a b = orderZ (a.map smallZ) (b.map smallZ) := rfl
end My

/- [elt for i, x in enumerate(xs) if ct] over an argument's list of whole numbers: a step of the walk -/
namespace My
section
open PySem PySem.W PySem.Calls PyProof.Rows PySem.Spec PyProof.Rows.LCg
variable {prog : Program} {w : World} {A : Around} {E : Value → Shared → Prop} {s : Shared} {h₀ : Heap} {L : Addr} {m : Str → Option Value} {env : Env}
theorem em_loop {elt target iter ct : PySem.Expr} {scope : Scope} {pos : Pos} {it acc : Value} {env : Env} {R : Result → Shared → Prop} (I : Nat → Shared → Prop)
    (turn : ∀ n s, I n s → wpAny (model prog w) A (pyNext it) (fun r s₁ => match r with
      | none => R (.ok .next) s₁
      | some v => wpAny (model prog w) A (letOwnedTupleGo target it v) (fun _ s₀ => wpAny (model prog w) A (assign target env v) (fun _ s₂ =>
          wpAny (model prog w) A (isTrue ct env (eval ct env)) (fun ok s₃ => if ok = true then wpAny (model prog w) A (eval elt env) (fun x s₄ =>
            wpAny (model prog w) A (call (.builtin "list.append") [acc, x]) (fun _ s₅ => ∃ m, m < n ∧ I m s₅) (notedBy (model prog w) A env fun e s' => R (.error e) s') s₄) (notedBy (model prog w) A env fun e s' => R (.error e) s') s₃
            else ∃ m, m < n ∧ I m s₃) (notedBy (model prog w) A env fun e s' => R (.error e) s') s₂)
          (notedBy (model prog w) A env fun e s' => R (.error e) s') s₀) (notedBy (model prog w) A env fun e s' => R (.error e) s') s₁) (notedBy (model prog w) A env fun e s' => R (.error e) s') s)
    (n : Nat) (h : I n s) : codeAny (model prog w) A (.compLoop (.ListComp elt [⟨target, iter, [ct], 0⟩] scope pos) 0 it acc env) R s := by
  refine codeAny_loop rfl I (fun n s hI => ?_) n h
  show wpAny _ A ((compTurn (.ListComp elt [⟨target, iter, [ct], 0⟩] scope pos) 0 it acc env).onRaise (fun x => do noteFrame x env; theTreesLotGoes x)) _ _ s
  refine wpAny_noted ?_
  rw [compTurn_list]
  refine wpAny_bind (wpAny_standAt (wpAny_bind (wpAny_mono (turn n s hI) (fun r s₁ h₁ => ?_) fun _ _ h' => h')))
  cases r with
  | none => exact wpAny_pure h₁
  | some v =>
    refine wpAny_bind (wpAny_mono h₁ (fun _ s₀ h₀' => ?_) fun _ _ h' => h')
    refine wpAny_bind (wpAny_mono h₀' (fun _ s₂ h₂ => wpAny_bind (wpAny_tests_one (wpAny_mono h₂ (fun ok s₃ h₃ => ?_) fun _ _ h' => h'))) fun _ _ h' => h')
    cases ok with
    | false => exact wpAny_pure ⟨rfl, h₃⟩
    | true =>
      exact wpAny_bind (wpAny_bind (wpAny_mono h₃ (fun x s₄ h₄ => wpAny_bind (wpAny_mono h₄ (fun _ s₅ h₅ => wpAny_pure (wpAny_pure ⟨rfl, h₅⟩)) fun _ _ h' => h')) fun _ _ h' => h'))

def EmTurn (prog : Program) (w : World) (A : Around) (h₀ : Heap) (L : Addr) (m : Str → Option Value) (env : Env) (ct elt : PySem.Expr) (a b : Str) (scope : Scope) (cl : List (Str × Addr)) (G : List Int → Int → Int → List Int) (ns : List Int) (news : List (Addr × Obj)) (s : Shared) : Prop :=
  ∀ (i : Nat) (k : Int) (t u : Tok) (e it : Addr) (oI oi : Obj) (C : Addr) (oC : Obj) (D : Addr) (m₂ : Str → Option Value) (ys : List Value) (l' : List Int) (h : Heap) (tk : Nat) (E' : Value → Shared → Prop), i < ns.length → ns[i]? = some k → k ∈ ns → IntsAre ys l' →
    NsObj oC m₂ → m₂ a = some (.int (i : Int) t) → m₂ b = some (.int k u) → Fr h₀ L h m → News h₀ L h ((e, oI) :: (C, oC) :: (D, lst ys) :: (it, oi) :: news) → Off3 e C D ((it, oi) :: news) → ((@Ne Nat e C) ∧ (@Ne Nat e D) ∧ (@Ne Nat C D)) →
    wpAny (model prog w) A (isTrue ct (compEnvC scope cl C env) (eval ct (compEnvC scope cl C env))) (fun ok s' => if ok = true then
      wpAny (model prog w) A (eval elt (compEnvC scope cl C env)) (CompEnd h₀ L m { s with heap := h, toks := tk } e oI C oC D (lst ys) (fun _ => True) (fun y news' => KCiEl ((it, oi) :: news) l' (G l' (i : Int) k) y news')) E' s'
      else CompEnd h₀ L m { s with heap := h, toks := tk } e oI C oC D (lst ys) (fun _ => True) (fun _ news' => KCiNo ((it, oi) :: news) l' (G l' (i : Int) k) news') Value.none s') E' { s with heap := h, toks := tk }

set_option maxHeartbeats 2000000 in
theorem em_block {ct elt iter : PySem.Expr} {a b : Str} {pa pb tp : Pos} {kk : Nat} {scope : Scope} {cl : List (Str × Addr)} {pos : Pos} {s₂ : Shared} {e it l : Addr} {vs : List Value} {ns : List Int} {news : List (Addr × Obj)}
    {RR : Value → Addr → Result → Shared → Prop} (G : List Int → Int → Int → List Int)
    (hh : A.handled = none) (hei : e ≠ it) (hle : l ≠ e) (hli : l ≠ it) (hl₀ : h₀.IsList l vs.toArray) (hi : IntsAre vs ns) (hsz : vs.length ≤ sizeLine)
    (hst : (∃ old, IsEnum s₂.heap e it ((0 : Nat) : Int) old) ∧ s₂.heap.IsListIter it l 0 ∧ s₂.heap.IsList l vs.toArray)
    (hcell : ∀ y ∈ scope.names, y.2 ≠ .cell) (hkind : scope.kind = .function) (hxa : scope.names.lookup a = some .local) (hxb : scope.names.lookup b = some .local) (hab : ¬ a = b)
    (F : Fr h₀ L s₂.heap m) (N : News h₀ L s₂.heap news) (heL : L ≠ e) (hiL : L ≠ it) (he₀ : h₀.get? e = none) (hi₀ : h₀.get? it = none) (offe : ∀ p ∈ news, p.1 ≠ e) (offi : ∀ p ∈ news, p.1 ≠ it)
    (turn : EmTurn prog w A h₀ L m env ct elt a b scope cl G ns news s₂)
    (hRR : ∀ D C h tk m' ys, Fr h₀ L h m → News h₀ L h ((D, lst ys) :: news) → Off1 D news → h.Ns C m' → h₀.get? C = none → h₀.get? D = none → C ≠ L → D ≠ L → C ≠ D → (∀ p ∈ news, p.1 ≠ C) → IntsAre ys (emFold G 0 [] ns) → ys.length ≤ vs.length → RR (.ref D) C (.ok .next) { s₂ with heap := h, toks := tk }) :
    wpAny (model prog w) A (newList []) (fun acc s₃ => wpAny (model prog w) A (newFunctionEnv scope env.globals cl [] env.qual none .none (some env)) (fun cenv s₄ =>
      codeAny (model prog w) A (.compStart (.ListComp elt [⟨.Tuple [.Name a pa, .Name b pb] kk tp, iter, [ct], 0⟩] scope pos) 0 (.ref e) acc { cenv with scope := relabel scope env }) (RR acc cenv.locals) s₄) E s₃) E s₂ := by
  have hlen : vs.length = ns.length := hi.length
  refine wpAny_newObj_type (wpAny_newFunctionEnv hcell (by intro y hy; simp at hy) (fun h₁ hns₁ hsb₁ => ?_) hkind)
  dsimp only at hns₁ hsb₁ ⊢
  generalize hH2 : s₂.heap.push { cls := .type "list", dict := none, data := .seq ([] : List Value).toArray } = H2 at hns₁ hsb₁ ⊢
  have hC : H2.objs.size = s₂.heap.objs.size + 1 := by rw [← hH2, Heap.size_push]
  have hDC : s₂.heap.objs.size ≠ H2.objs.size := by rw [hC]; exact Nat.ne_of_lt (Nat.lt_succ_self _)
  have below : ∀ b, b < s₂.heap.objs.size → b ≠ H2.objs.size ∧ b ≠ s₂.heap.objs.size := fun b hb => ⟨by rw [hC]; exact Nat.ne_of_lt (Nat.lt_succ_of_lt hb), Nat.ne_of_lt hb⟩
  have helt : e < s₂.heap.objs.size := by obtain ⟨_, x⟩ := hst.1; exact Heap.lt_size x
  have hilt : it < s₂.heap.objs.size := by obtain ⟨_, x, _⟩ := hst.2.1; exact Heap.lt_size x
  have hllt : l < s₂.heap.objs.size := by obtain ⟨_, x, _⟩ := hst.2.2; exact Heap.lt_size x
  have old : ∀ b o, s₂.heap.get? b = some o → h₁.get? b = some o := fun b o x => hsb₁.extBut b o (below b (Heap.lt_size x)).1 (Heap.get?_push_of_some _ (hH2 ▸ Heap.get?_push_of_some _ x))
  have hacc : h₁.get? s₂.heap.objs.size = some (lst []) := hsb₁.extBut _ _ hDC (Heap.get?_push_of_some _ (hH2 ▸ Heap.get?_push_size _ rfl))
  have fresh : ∀ a, s₂.heap.objs.size ≤ a → s₂.heap.get? a = none := fun a ha => by
    cases x : s₂.heap.get? a with
    | none => rfl
    | some o' => exact absurd (Heap.lt_size x) (Nat.not_lt.mpr ha)
  have fresh₀ : ∀ a, s₂.heap.objs.size ≤ a → h₀.get? a = none := fun a ha => by
    cases x : h₀.get? a with
    | none => rfl
    | some o' => have := F.keep a o' x; rw [fresh a ha] at this; cases this
  have hD₀ : h₀.get? s₂.heap.objs.size = none := fresh₀ _ (Nat.le_refl _)
  have hC₀ : h₀.get? H2.objs.size = none := fresh₀ _ (by rw [hC]; exact Nat.le_succ _)
  have hLlt : L < s₂.heap.objs.size := F.ns.lt
  have hDL : s₂.heap.objs.size ≠ L := Ne.symm (below L hLlt).2
  have hCL : H2.objs.size ≠ L := Ne.symm (below L hLlt).1
  have heC : e ≠ H2.objs.size := (below e helt).1
  have heD : e ≠ s₂.heap.objs.size := (below e helt).2
  have hiC : it ≠ H2.objs.size := (below it hilt).1
  have hiD : it ≠ s₂.heap.objs.size := (below it hilt).2
  have offC : ∀ p ∈ news, p.1 ≠ H2.objs.size := fun p hp => (below _ (Heap.lt_size (N p hp).1)).1
  have offD : ∀ p ∈ news, p.1 ≠ s₂.heap.objs.size := fun p hp => (below _ (Heap.lt_size (N p hp).1)).2
  have W := (WalksT.enumerate (prog := prog) (w := w) hh e it l hei hle hli vs.toArray).toU
  have hst₁ : (∃ old, IsEnum h₁ e it ((0 : Nat) : Int) old) ∧ h₁.IsListIter it l 0 ∧ h₁.IsList l vs.toArray := W.frame 0 _ _ hst fun b _ o x => old b o x
  have hvs : vs.toArray.size = vs.length := by simp
  have loop : ∀ s₃ : Shared, s₃ = { s₂ with heap := h₁, toks := s₂.toks + ([] : List (Str × Value)).length } →
      codeAny (model prog w) A (.compLoop (.ListComp elt [⟨.Tuple [.Name a pa, .Name b pb] kk tp, iter, [ct], 0⟩] scope pos) 0 (.ref e) (.ref s₂.heap.objs.size) (compEnvC scope cl H2.objs.size env))
        (RR (.ref s₂.heap.objs.size) H2.objs.size) s₃ := by
    rintro s₃ rfl
    refine em_loop
      (fun k s' => ∃ h' tk i ys acc m', s' = { s₂ with heap := h', toks := tk } ∧ i ≤ vs.length ∧ k = vs.length + 1 - i ∧ ys.length ≤ i ∧ ((∃ old, IsEnum h' e it (i : Int) old) ∧ h'.IsListIter it l i ∧ h'.IsList l vs.toArray) ∧ Fr h₀ L h' m ∧ h'.Ns H2.objs.size m' ∧
        News h₀ L h' ((s₂.heap.objs.size, lst ys) :: news) ∧ IntsAre ys acc ∧ emFold G i acc (ns.drop i) = emFold G 0 [] ns) ?_ (vs.length + 1)
      ⟨h₁, _, 0, [], [], _, rfl, Nat.zero_le _, rfl, Nat.le_refl _, hst₁, F.keeps old, hns₁, fun p hp => ?_, .nil, by rw [List.drop_zero]⟩
    · rintro k s' ⟨h', tk, i, ys, acc, m', rfl, hi', rfl, hyl, hst', F', hn', N', hy, hfold⟩
      by_cases hlt : i < vs.length
      · refine W.item i _ _ _ (by rw [hvs]; exact hlt) hst' fun T vals h₂ tk₂ hP hT hMd hk₂ => ?_
        refine W.go [.Name a pa, .Name b pb] kk tp i T _ _ _ hMd fun h₃ hst₃ hk₃ => ?_
        have hTw := W.apart i T _ hMd
        obtain ⟨t, x, hx, rfl⟩ := hP
        have hT₃ : h₃.IsTuple T #[.int (i : Int) t, x] := hT.at fun o x => hk₃ T o hTw x
        obtain ⟨kn, tx, ex, hkn⟩ := IntsAre.at hi i x (by simpa using hx)
        subst ex
        have up₃ : ∀ c o, c ≠ e → c ≠ it → h'.get? c = some o → h₃.get? c = some o := fun c o h1 h2 x => hk₃ c o (by simp [h1, h2]) (hk₂ c o (by simp [h1, h2]) x)
        refine kcp_assign (env := compEnvC scope cl H2.objs.size env) hh hT₃ (lookup_relabel_local hxa) (lookup_relabel_local hxb) (by simp [compEnvC, relabel, hkind]) (hn'.at' fun o x => up₃ _ o (Ne.symm heC) (Ne.symm hiC) x) fun h₄ tk₄ hn₄ hs₄ => ?_
        have up : ∀ c o, c ≠ e → c ≠ it → c ≠ H2.objs.size → h'.get? c = some o → h₄.get? c = some o := fun c o h1 h2 h3 x => hs₄ c o h3 (up₃ c o h1 h2 x)
        obtain ⟨⟨old₃, hE₃⟩, ⟨oi, hoi, hci, hdi⟩, hL₃⟩ := hst₃
        have hE₄ : IsEnum h₄ e it ((i + 1 : Nat) : Int) old₃ := hs₄ e _ heC hE₃
        obtain ⟨oI, heI, hoI⟩ : ∃ oI : Obj, h₄.get? e = some oI ∧ ∀ h : Heap, h.get? e = some oI → ∃ old, IsEnum h e it ((i + 1 : Nat) : Int) old := ⟨_, hE₄, fun _ x => ⟨_, x⟩⟩
        have hoi₄ : h₄.get? it = some oi := hs₄ it _ hiC hoi
        obtain ⟨oC, heC', hoC⟩ := ns_obj hn₄
        have F₄ : Fr h₀ L h₄ m := ⟨F'.ns.at' fun o x => up _ o heL hiL (Ne.symm hCL) x, fun c o x => up c o (fun q => by rw [q, he₀] at x; cases x) (fun q => by rw [q, hi₀] at x; cases x) (fun q => by rw [q, hC₀] at x; cases x) (F'.keep c o x), F'.above⟩
        have N₄ : News h₀ L h₄ ((e, oI) :: (H2.objs.size, oC) :: (s₂.heap.objs.size, lst ys) :: (it, oi) :: news) := fun q hq => by
          rcases List.mem_cons.mp hq with rfl | hq
          · exact ⟨heI, Ne.symm heL, he₀⟩
          rcases List.mem_cons.mp hq with rfl | hq
          · exact ⟨heC', hCL, hC₀⟩
          rcases List.mem_cons.mp hq with rfl | hq
          · have z := N' _ List.mem_cons_self
            exact ⟨up _ _ (Ne.symm heD) (Ne.symm hiD) hDC z.1, z.2⟩
          rcases List.mem_cons.mp hq with rfl | hq
          · exact ⟨hoi₄, Ne.symm hiL, hi₀⟩
          · have z := N' q (List.mem_cons_of_mem _ hq)
            exact ⟨up _ _ (offe q hq) (offi q hq) (offC q hq) z.1, z.2⟩
        have off₄ : Off3 e H2.objs.size s₂.heap.objs.size ((it, oi) :: news) := Off3.of fun p hp => by
          rcases List.mem_cons.mp hp with rfl | hp
          · exact ⟨Ne.symm hei, hiC, hiD⟩
          · exact ⟨offe p hp, offC p hp, offD p hp⟩
        have hdrop : ns.drop i = kn :: ns.drop (i + 1) := by
          obtain ⟨h1, h2⟩ := List.getElem?_eq_some_iff.1 hkn
          rw [List.drop_eq_getElem_cons h1, h2]
        rw [hdrop, emFold] at hfold
        refine wpAny_mono (turn i kn t tx e it oI oi H2.objs.size oC s₂.heap.objs.size _ ys acc h₄ tk₄ _ (by omega) hkn (List.mem_of_getElem? hkn) hy hoC (by simp [hab]) (by simp) F₄ N₄ off₄ ⟨heC, heD, Ne.symm hDC⟩) (fun ok s₄ q₄ => ?_) fun _ _ x => x
        have stN : ∀ h₅ : Heap, h₅.get? e = some oI → h₅.get? it = some oi → (∀ b o, h₀.get? b = some o → h₅.get? b = some o) → (∃ old, IsEnum h₅ e it ((i + 1 : Nat) : Int) old) ∧ h₅.IsListIter it l (i + 1) ∧ h₅.IsList l vs.toArray :=
          fun h₅ h1 h2 h3 => ⟨hoI h₅ h1, ⟨oi, h2, hci, hdi⟩, hl₀.at fun o x => h3 l o x⟩
        cases ok with
        | true =>
          simp only [if_true] at q₄ ⊢
          refine wpAny_mono q₄ (fun y s₅ q₅ => ?_) fun _ _ x => x
          obtain ⟨h₅, tk₅, news₅, rfl, F₅, N₅, _, _, rfl, av, ta, rfl, hr⟩ := q₅
          have zI := (N₅ (e, oI) List.mem_cons_self).1
          have zC := (N₅ (H2.objs.size, oC) (List.mem_cons_of_mem _ List.mem_cons_self)).1
          have zD := (N₅ (s₂.heap.objs.size, lst ys) (List.mem_cons_of_mem _ (List.mem_cons_of_mem _ List.mem_cons_self))).1
          have zi := (N₅ (it, oi) (List.mem_cons_of_mem _ (List.mem_cons_of_mem _ (List.mem_cons_of_mem _ List.mem_cons_self)))).1
          have N₅' : News h₀ L h₅ news := fun q hq => N₅ q (List.mem_cons_of_mem _ (List.mem_cons_of_mem _ (List.mem_cons_of_mem _ (List.mem_cons_of_mem _ hq))))
          refine append_at (hsz := by show ys.toArray.size ≤ sizeLine; rw [List.size_toArray]; exact Nat.le_trans (Nat.le_trans hyl hi') hsz) zD fun h₆ hs₆ hD₆ => ?_
          refine ⟨vs.length + 1 - (i + 1), by omega, h₆, tk₅, i + 1, ys ++ [.int av ta], G acc (i : Int) kn, _, rfl, hlt, rfl, by rw [List.length_append, List.length_singleton]; exact Nat.succ_le_succ hyl,
            stN h₆ (hs₆.extBut e oI heD zI) (hs₆.extBut it oi hiD zi) (F₅.change hs₆ hDL hD₀).keep, F₅.change hs₆ hDL hD₀, (hoC.ns zC).sameBut hs₆ (Ne.symm hDC), fun q hq => ?_, ?_, hfold⟩
          · rcases List.mem_cons.mp hq with rfl | hq
            · exact ⟨hD₆.trans (congrArg some (lst_snoc ys _)), hDL, hD₀⟩
            · exact ⟨hs₆.extBut _ _ (offD q hq) (N₅' q hq).1, (N₅' q hq).2⟩
          · rw [hr]
            exact IntsAre.append hy (.cons av ta .nil)
        | false =>
          simp only [Bool.false_eq_true, if_false] at q₄ ⊢
          obtain ⟨h₅, tk₅, news₅, rfl, F₅, N₅, _, _, rfl, hr⟩ := q₄
          have zI := (N₅ (e, oI) List.mem_cons_self).1
          have zC := (N₅ (H2.objs.size, oC) (List.mem_cons_of_mem _ List.mem_cons_self)).1
          have zi := (N₅ (it, oi) (List.mem_cons_of_mem _ (List.mem_cons_of_mem _ (List.mem_cons_of_mem _ List.mem_cons_self)))).1
          refine ⟨vs.length + 1 - (i + 1), by omega, h₅, tk₅, i + 1, ys, G acc (i : Int) kn, _, rfl, hlt, rfl, Nat.le_succ_of_le hyl, stN h₅ zI zi F₅.keep, F₅, hoC.ns zC, fun q hq => ?_, ?_, hfold⟩
          · rcases List.mem_cons.mp hq with rfl | hq
            · exact N₅ _ (List.mem_cons_of_mem _ (List.mem_cons_of_mem _ List.mem_cons_self))
            · exact N₅ q (List.mem_cons_of_mem _ (List.mem_cons_of_mem _ (List.mem_cons_of_mem _ (List.mem_cons_of_mem _ hq))))
          · rw [hr]
            exact hy
      · have hin : i = vs.length := Nat.le_antisymm hi' (Nat.not_lt.mp hlt)
        subst hin
        have hnil : ns.drop vs.length = [] := List.drop_eq_nil_of_le (Nat.le_of_eq hlen.symm)
        rw [hnil, emFold] at hfold
        rw [← hvs] at hst'
        refine W.done _ _ _ hst' fun h₂ tk₂ hk₂ => ?_
        have up : ∀ c o, c ≠ e → c ≠ it → h'.get? c = some o → h₂.get? c = some o := fun c o h1 h2 x => hk₂ c o (by simp [h1, h2]) x
        refine hRR _ _ h₂ tk₂ _ ys ⟨F'.ns.at' fun o x => up _ o heL hiL x, fun c o x => up c o (fun q => by rw [q, he₀] at x; cases x) (fun q => by rw [q, hi₀] at x; cases x) (F'.keep c o x), F'.above⟩ (fun p hp => ?_) ?_ (hn'.at' fun o x => up _ o (Ne.symm heC) (Ne.symm hiC) x) hC₀ hD₀ hCL hDL (Ne.symm hDC) offC (hfold ▸ hy) hyl
        · rcases List.mem_cons.mp hp with rfl | hp
          · have z := N' _ List.mem_cons_self
            exact ⟨up _ _ (Ne.symm heD) (Ne.symm hiD) z.1, z.2⟩
          · have z := N' p (List.mem_cons_of_mem _ hp)
            exact ⟨up _ _ (offe p hp) (offi p hp) z.1, z.2⟩
        · exact Off3.one (I := e) (C := H2.objs.size) (Off3.of fun p hp => ⟨offe p hp, offC p hp, offD p hp⟩)
    · rcases List.mem_cons.mp hp with rfl | hp
      · exact ⟨hacc, hDL, hD₀⟩
      · exact ⟨old _ _ (N p hp).1, (N p hp).2⟩
  exact codeAny_compStart_list (loop _ rfl) (W.self 0 _ _ _ hst₁ (loop _ rfl))

/-- what the iterable must be: a fresh enumerate of an argument's list, with the turn and the end -/
def EmSrc (prog : Program) (w : World) (A : Around) (h₀ : Heap) (L : Addr) (m : Str → Option Value) (env : Env) (ct elt : PySem.Expr) (a b : Str) (scope : Scope) (cl : List (Str × Addr)) (Q : Value → Shared → Prop) (xv : Value) (s₁ : Shared) : Prop :=
  ∃ e it l vs ns news G, xv = .ref e ∧ A.handled = none ∧ e ≠ it ∧ l ≠ e ∧ l ≠ it ∧ h₀.IsList l vs.toArray ∧ IntsAre vs ns ∧ vs.length ≤ sizeLine ∧ ((∃ old, IsEnum s₁.heap e it ((0 : Nat) : Int) old) ∧ s₁.heap.IsListIter it l 0 ∧ s₁.heap.IsList l vs.toArray) ∧
    Fr h₀ L s₁.heap m ∧ News h₀ L s₁.heap news ∧ L ≠ e ∧ L ≠ it ∧ h₀.get? e = none ∧ h₀.get? it = none ∧ (∀ p ∈ news, p.1 ≠ e) ∧ (∀ p ∈ news, p.1 ≠ it) ∧
    EmTurn prog w A h₀ L m env ct elt a b scope cl G ns news s₁ ∧
    ∀ ys, IntsAre ys (emFold G 0 [] ns) → ys.length ≤ vs.length → FinE h₀ L m s₁ Q ys news
theorem em_ListComp {ct elt iter : PySem.Expr} {a b : Str} {pa pb tp : Pos} {kk : Nat} {scope : Scope} {cl : List (Str × Addr)} {pos : Pos} {Q : Value → Shared → Prop} (_F₀ : Fr h₀ L s.heap m)
    (hclos : closureFor scope env = pure cl) (hcell : ∀ y ∈ scope.names, y.2 ≠ .cell) (hkind : scope.kind = .function)
    (hnames : ∀ y ∈ scope.names, y.2 = .local → scope.names.lookup y.1 = some .local) (hxa : scope.names.lookup a = some .local) (hxb : scope.names.lookup b = some .local) (hab : ¬ a = b)
    (h : wpAny (model prog w) A (eval iter env) (EmSrc prog w A h₀ L m env ct elt a b scope cl Q) E s)
    (hs : ∀ x, foldedSetIterable iter env x = pure x := by intro _; rfl) :
    wpAny (model prog w) A (eval (.ListComp elt [⟨.Tuple [.Name a pa, .Name b pb] kk tp, iter, [ct], 0⟩] scope pos) env) Q E s := by
  rw [eval_ListComp]
  refine wpAny_comprehension_free (use := none) rfl hs hclos hkind hnames (wpAny_mono h (fun xv s₁ h₁ => ?_) fun _ _ x => x)
  obtain ⟨e, it, l, vs, ns, news, G, rfl, hh, hei, hle, hli, hl, hi, hsz, hst, F, N, heL, hiL, he₀, hi₀, offe, offi, turn, fin⟩ := h₁
  refine (WalksT.enumerate (prog := prog) (w := w) hh e it l hei hle hli vs.toArray).toU.self 0 _ _ _ hst ?_
  refine em_block G hh hei hle hli hl hi hsz hst hcell hkind hxa hxb hab F N heL hiL he₀ hi₀ offe offi turn ?_
  intro D C h tk m' ys F' N' o1 hn hC₀ hD₀ hCL hDL hCD offC hy hyl
  refine ⟨m', hn, fun h'' hs'' => fin ys hy hyl D h'' tk (F'.change hs'' hCL hC₀) (fun p hp => ?_) o1⟩
  refine ⟨hs''.extBut _ _ ?_ (N' p hp).1, (N' p hp).2⟩
  rcases List.mem_cons.mp hp with rfl | hp
  · exact Ne.symm hCD
  · exact offC p hp
theorem em_call {ct elt : PySem.Expr} {a b : Str} {scope : Scope} {cl : List (Str × Addr)} {Q : Value → Shared → Prop} {l : Addr} {vs : List Value} {ns : List Int} {news : List (Addr × Obj)} (G : List Int → Int → Int → List Int)
    (hh : A.handled = none) (F : Fr h₀ L s.heap m) (N : News h₀ L s.heap news) (hl : h₀.IsList l vs.toArray) (hi : IntsAre vs ns) (hsz : vs.length ≤ sizeLine)
    (h : ∀ g : Heap, EmTurn prog w A h₀ L m env ct elt a b scope cl G ns news { s with heap := g } ∧ ∀ ys, IntsAre ys (emFold G 0 [] ns) → ys.length ≤ vs.length → FinE h₀ L m { s with heap := g } Q ys news) :
    wpAny (model prog w) A (call (.type "enumerate") [.ref l]) (EmSrc prog w A h₀ L m env ct elt a b scope cl Q) E s := by
  have hls : s.heap.IsList l vs.toArray := hl.at fun o x => F.keep l o x
  have hlt : l < s.heap.objs.size := by obtain ⟨_, x, _⟩ := hls; exact Heap.lt_size x
  refine call_enumerate_list hls fun h' he hit hz hk => ?_
  have fresh₀ : ∀ a, s.heap.objs.size ≤ a → h₀.get? a = none := fun a ha => by
    cases x : h₀.get? a with
    | none => rfl
    | some o' => exact absurd (Heap.lt_size (F.keep a o' x)) (Nat.not_lt.mpr ha)
  have hLlt : L < s.heap.objs.size := F.ns.lt
  exact ⟨_, _, l, vs, ns, news, G, rfl, hh, Nat.succ_ne_self _, Nat.ne_of_lt (Nat.lt_succ_of_lt hlt), Nat.ne_of_lt hlt, hl, hi, hsz, ⟨⟨_, he⟩, hit, hls.at fun o x => hk l o x⟩,
    F.keeps hk, N.grown hk, Nat.ne_of_lt (Nat.lt_succ_of_lt hLlt), Nat.ne_of_lt hLlt, fresh₀ _ (Nat.le_succ _), fresh₀ _ (Nat.le_refl _), fun p hp => Nat.ne_of_lt (Nat.lt_succ_of_lt (Heap.lt_size (N p hp).1)), fun p hp => Nat.ne_of_lt (Heap.lt_size (N p hp).1), (h h').1, (h h').2⟩
end
end My


namespace My
theorem w_bytes {l : List Int} (h : Codec.within (.list 0 31 (.int (Int.ofNat 0) (Int.ofNat 255))) l = true) : l.length ≤ 31 ∧ Bs l := by
  have h : (Codec.inNat 0 31 l.length && l.all (Codec.inInt 0 255)) = true := h
  have k := Codec.and_of h
  exact ⟨(Codec.inNat_iff.mp k.1).2, fun x hx => Codec.inInt_iff.mp (List.all_eq_true.mp k.2 x hx)⟩
theorem w_int {lo hi x : Int} (h : Codec.within (.int lo hi) x = true) : lo ≤ x ∧ x ≤ hi := Codec.inInt_iff.mp h
theorem fin {X Y : List Int} (h : X = Y) : WData.list (ofPys (X.map PyData.int)) = WData.list (Y.map WData.int) := by rw [os_ofPys_ints, h]
theorem fin1 {k : Int} {Y : List Int} (h : Y = [k]) : ofPy (PyData.list [PyData.int k]) = WData.list (Y.map WData.int) := by
  rw [h]
  exact os_list rfl
end My

theorem My.said : PySem.Challenge.rw_shorttextsdesk_s11_mask.wellSaid = true := by decide +kernel
theorem My.bnd {x0 : List Int} {x1 : List Int} (h : PySem.Challenge.rw_shorttextsdesk_s11_mask.pre [ofPy (.list (x0.map PyData.int)), ofPy (.list (x1.map PyData.int))] = true) :
    (x0.length ≤ 31 ∧ My.Bs x0) ∧ (x1.length ≤ 31 ∧ My.Bs x1) := by
  obtain ⟨a, w, q, e⟩ := os_pre My.said h
  obtain ⟨y0, y1, u⟩ := a
  have e0 := os_j_ints (List.cons.inj e).1
  have e1 := os_j_ints (List.cons.inj (List.cons.inj e).2).1
  subst e0 e1
  exact ⟨My.w_bytes (Codec.and_of w).1, My.w_bytes (Codec.and_of (Codec.and_of w).2).1⟩

theorem My.name {x0 : List Int} {x1 : List Int} (_ : PySem.Challenge.rw_shorttextsdesk_s11_mask.pre [ofPy (.list (x0.map PyData.int)), ofPy (.list (x1.map PyData.int))] = true) : ∃ (t : List Int) (some_ : List Int), t = x0 ∧ some_ = x1 := ⟨_, _, rfl, rfl⟩

open PySem.W PyProof.Rows in
local macro_rules
  | `(tactic| walk_at "eval ListComp") => `(tactic| (k_here; k_dflt (refine My.em_ListComp (by k_asm) (by with_unfolding_all rfl) (by decide) (by rfl) (by decide) (by rfl) (by rfl) (by decide) ?_)))
open PySem.W PyProof.Rows in
local macro_rules
  | `(tactic| walk_at "call type:enumerate") => `(tactic| (k_here; k_dflt (refine My.em_call (My.maskG $(Lean.mkIdent `some_)) (by rfl) (by k_asm) (by k_asm) (by assumption) (by assumption) (by size_fits) ?_); intro g'; (refine ⟨?_, ?_⟩); (focus (unfold My.EmTurn; intro i' k' t' u' e' it' oI' oi' C' oC' D' m' ys' l' h' tk' E' hi' hk' hm' hI' hC' ha' hb' F' N' off' ne'; (try simp only [LCg.Off3, and_true] at off'))); (rotate_left); (intro ys' hy' hyl'); (rotate_left)))
namespace My
theorem mask_el {news : List (PySem.Addr × PySem.Obj)} {s l : List Int} {i k : Int} {t : PySem.Tok} (h : (s.any fun x => x == k) = true) : PySem.W.KCiEl news l (maskG s l i k) (.int (1 * 2 ^ i.toNat) t) news :=
  ⟨rfl, _, _, rfl, by unfold maskG; rw [← any_has, if_pos h]⟩
theorem mask_no {news : List (PySem.Addr × PySem.Obj)} {s l : List Int} {i k : Int} (h : (s.any fun x => x == k) = false) : PySem.W.KCiNo news l (maskG s l i k) news :=
  ⟨rfl, by unfold maskG; rw [← any_has, h, if_neg Bool.false_ne_true]⟩
end My
local macro_rules
  | `(tactic| walk_at "KCiEl") => `(tactic| exact My.mask_el (by assumption))
local macro_rules
  | `(tactic| walk_at "KCiNo") => `(tactic| exact My.mask_no (by assumption))
namespace My
theorem mask_end {t s : List Int} : [bitsFrom s 0 t] = [(emFold (maskG s) 0 [] t).sum] := by
  rw [mask_sum, List.sum_nil, Int.zero_add]
end My

set_option maxRecDepth 100000 in
set_option maxHeartbeats 8000000 in
theorem PySem.Challenge.cw_shorttextsdesk_s11_mask_holds : PySem.Challenge.rw_shorttextsdesk_s11_mask.Holds := by
  w_on; k_headS; (case hw => exact ⟨[.list [], .list []], by decide +kernel, by decide +kernel⟩)
  k_goS0
  (with_reducible rename OpenSpec.pre _ _ = true => hcP)
  obtain ⟨⟨hL0, hB0⟩, ⟨hL1, hB1⟩⟩ := My.bnd hcP
  obtain ⟨t, some_, hn0, hn1⟩ := My.name hcP
  subst hn0 hn1
  (all_goals try k_fold); k_steps; (all_goals (try (w_end; sp_is; wrow_close))); (all_goals (try k_data))
  all_goals first | sp_left | w_report
  all_goals os_open My.said with a w q e
  all_goals obtain ⟨y0, y1, u⟩ := a
  all_goals have e0 := os_j_ints (List.cons.inj e).1
  all_goals have e1 := os_j_ints (List.cons.inj (List.cons.inj e).2).1
  all_goals subst e0 e1
  all_goals refine My.fin1 ?_
  all_goals show PySv24.mask _ _ = _
  all_goals rw [My.mask_eq hB0.nn hB1.nn]
  all_goals exact My.mask_end
#print axioms PySem.Challenge.cw_shorttextsdesk_s11_mask_holds
