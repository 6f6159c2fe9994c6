package tests

import (
	"fmt"
	"math/rand"
	"slices"
	"testing"

	"loop.example/g01230/impl"
)

// checkAction holds what is told of an algebra with a module: whether it is a module algebra, and, if
// it is none, that it has neither a smash product nor constants.
func checkAction(t *testing.T, s actedSample, want bool) {
	t.Helper()
	yes, code := impl.IsModuleAlgebra(s.hopf, s.algebra, s.module)
	checkAnswer(t, s.name+" is a module algebra", yes, code, want)
	if want {
		return
	}
	smash, code := impl.SmashProduct(s.hopf, s.algebra, s.module)
	if smash != (impl.Algebra{}) || code != impl.ErrState {
		t.Errorf("%s: the smash product is %v, %d", s.name, smash, code)
	}
	constants, code := impl.ConstantsOf(s.hopf, s.algebra, s.module)
	if len(constants) != 0 || code != impl.ErrState {
		t.Errorf("%s: the constants are %v, %d", s.name, constants, code)
	}
}

// embedded returns both embeddings of a vector each, and holds that there are any.
func embedded(t *testing.T, s actedSample, v, w impl.Vector) (left, right impl.Vector) {
	t.Helper()
	left, code := impl.EmbedLeft(s.hopf, s.algebra, v)
	if want := crossByHand(s.hopf.Prime, s.hopf.Size, v, s.hopf.Unit); left != want || code != impl.ErrNone {
		t.Errorf("%s: %v is embedded as %v, %d, not %v", s.name, v, left, code, want)
	}
	right, code = impl.EmbedRight(s.hopf, s.algebra, w)
	if want := crossByHand(s.hopf.Prime, s.hopf.Size, s.algebra.Unit, w); right != want || code != impl.ErrNone {
		t.Errorf("%s: %v of the Hopf algebra is embedded as %v, %d, not %v", s.name, w, right, code, want)
	}
	return left, right
}

// isSmall reports whether the smash product has at most the greatest size.
func isSmall(s actedSample) bool { return s.hopf.Size*s.algebra.Size <= impl.MaxSize }

func TestIsModuleAlgebra(t *testing.T) {
	t.Parallel()
	sizes := map[int64]int{}
	for _, s := range actedSamples() {
		if facts := keptFactsByHand(s); !facts.isModuleAlgebra() {
			t.Errorf("%s is no module algebra by hand: %+v", s.name, facts)
		}
		checkAction(t, s, true)
		sizes[s.algebra.Size]++
	}
	for n := int64(1); n <= impl.MaxSize; n++ {
		if sizes[n] == 0 {
			t.Errorf("no sample has the size %d", n)
		}
	}
}

// TestIsModuleAlgebraOfOthers has algebras with modules that keep neither the Unit nor products, or
// the Unit alone. Those that keep all products keep the Unit, too: what e(i) makes of it is then the
// sum of Com[i][j][k] e(j) of (the Unit times S(e(k)) of the Unit), which is Counit[i] times it.
func TestIsModuleAlgebraOfOthers(t *testing.T) {
	t.Parallel()
	seen := map[keptFacts]int{}
	for _, s := range otherActions() {
		facts := keptFactsByHand(s)
		seen[facts]++
		checkAction(t, s, facts.isModuleAlgebra())
	}
	if seen[keptFacts{false, false}] < 100 || seen[keptFacts{true, false}] < 100 || seen[keptFacts{true, true}] < 100 {
		t.Errorf("what actions keep: %v", seen)
	}
	if seen[keptFacts{false, true}] != 0 {
		t.Errorf("%d actions keep the products, and not the Unit", seen[keptFacts{false, true}])
	}
}

// TestIsModuleAlgebraOfOneProduct has, for all pairs of places, an algebra with one product x y = z
// beside those with the Unit, and an element of the order 2 that leaves x and y, and leads z to - z.
func TestIsModuleAlgebraOfOneProduct(t *testing.T) {
	t.Parallel()
	h := groupHopf(cyclic(31, 2))
	for place := range int64(8 * 8 * 8 * 8) {
		unit, x, y, z := place%8, place/8%8, place/64%8, place/512
		if unit == x || unit == y || unit == z || z == x || z == y {
			continue
		}
		a := algebraOf(31, 8, unitVector(unit), func(i, j int64) []int64 {
			switch {
			case i == unit:
				return []int64{j}
			case j == unit:
				return []int64{i}
			case i == x && j == y:
				return []int64{z}
			}
			return nil
		})
		m := trivialByHand(h, 8)
		m.Acts[1][z][z] = 30
		s := actedSample{fmt.Sprintf("the Unit %d, and %d times %d is %d", unit, x, y, z), h, a, m}
		if yes, code := impl.IsModuleAlgebra(h, a, m); yes || code != impl.ErrNone {
			t.Errorf("%s: %v, %d", s.name, yes, code)
		}
		s.module.Acts[1][x][x] = 30
		yes, code := impl.IsModuleAlgebra(h, a, s.module)
		checkAnswer(t, s.name+", with x to - x", yes, code, x != y)
	}
}

// linearAt returns the linear map for p and n that has the digits of a number as its entries.
func linearAt(p, n, place int64) impl.Linear {
	var f impl.Linear
	for i := range n * n {
		f[i/n][i%n] = byte(place % p)
		place /= p
	}
	return f
}

// TestIsModuleAlgebraOfAllSmall goes through all linear maps of the second basis element of Hopf
// algebras of the size 2, with the linear map of the first one such that the Unit leads each vector
// to itself.
func TestIsModuleAlgebraOfAllSmall(t *testing.T) {
	t.Parallel()
	group2, group3 := groupHopf(cyclic(2, 2)), groupHopf(cyclic(3, 2))
	for _, c := range []struct {
		name    string
		hopf    impl.Hopf
		algebra impl.Algebra
		want    int
	}{
		// Automorphisms that are their own inverses: of points, what leaves or exchanges them.
		{"two points for 3", group3, points(3, 2), 2},
		{"two points for 2", group2, points(2, 2), 2},
		{"three points for 2", group2, points(2, 3), 4},
		// t to t or - t, and beyond that with t t to - t + b t t.
		{"t t = 0 for 3", group3, truncated(3, 2), 2},
		{"t t = 0 for 2", group2, truncated(2, 2), 1},
		{"t t t = 0 for 3", group3, truncated(3, 3), 4},
		// t to t, and to t + t t.
		{"t t t = 0 for 2", group2, truncated(2, 3), 2},
		// Degrees in which the Unit has the degree 0: none for points for 2 but 0, and for 3 as many as
		// automorphisms.
		{"degrees of points for 2", dualHopfByHand(group2), points(2, 2), 1},
		{"degrees of points for 3", dualHopfByHand(group3), points(3, 2), 2},
		{"degrees of t t = 0 for 3", dualHopfByHand(group3), truncated(3, 2), 2},
		// t or 1 + t, or nothing, has the degree 1; the square of 1 + t is 1.
		{"degrees of t t = 0 for 2", dualHopfByHand(group2), truncated(2, 2), 3},
		// Derivations d with d d = 0, or d d = d: t to a + b t.
		{"derivations of points", lineHopf(2, 0), points(2, 3), 1},
		{"derivations of t t = 0", lineHopf(2, 0), truncated(2, 2), 2},
		{"split derivations of t t = 0", lineHopf(2, 1), truncated(2, 2), 3},
		{"the size 1", groupHopf(cyclic(3, 2)), slantedUnit(3), 1},
	} {
		n, p, count := c.algebra.Size, c.hopf.Prime, 0
		for place := range power(p, n*n) {
			f := linearAt(p, n, place)
			m := impl.Module{Dim: n, Acts: [8]impl.Linear{identityByHand(n), f}}
			if c.hopf.Unit[1] == 1 {
				m.Acts[0] = sumOfLinear(p, m.Acts[0], p-1, f)
			}
			s := actedSample{fmt.Sprint(c.name, ", ", f), c.hopf, c.algebra, m}
			if !isModuleByHand(c.hopf, m) {
				if got, code := impl.IsModuleAlgebra(c.hopf, c.algebra, m); got || code != impl.ErrInvalid {
					t.Errorf("%s: %v, %d for what is no module", s.name, got, code)
				}
				continue
			}
			facts := keptFactsByHand(s)
			if facts.isModuleAlgebra() {
				count++
			}
			if facts == (keptFacts{false, true}) {
				t.Errorf("%s: the action keeps products, and not the Unit", s.name)
			}
			checkAction(t, s, facts.isModuleAlgebra())
		}
		if count != c.want {
			t.Errorf("%s: %d module algebras, not %d", c.name, count, c.want)
		}
	}
}

// TestSmashProduct holds the first part of promise 8 and of the guarantee: smash products are algebras
// in which both algebras lie, and the products of both span them.
func TestSmashProduct(t *testing.T) {
	t.Parallel()
	sizes := map[int64]int{}
	for _, s := range actedSamples() {
		smash, code := impl.SmashProduct(s.hopf, s.algebra, s.module)
		if !isSmall(s) {
			if smash != (impl.Algebra{}) || code != impl.ErrLimit {
				t.Errorf("%s: the smash product is %v, %d", s.name, smash, code)
			}
			continue
		}
		if want := smashByHand(s); smash != want || code != impl.ErrNone {
			t.Errorf("%s: the smash product is %v, %d, not %v", s.name, smash, code, want)
		}
		if !impl.IsAlgebra(smash) || smash.Size != s.hopf.Size*s.algebra.Size {
			t.Errorf("%s: the smash product %v is no algebra of the size %d", s.name, smash, s.hopf.Size*s.algebra.Size)
		}
		sizes[smash.Size]++
		checkParts(t, s, smash)
	}
	if sizes[1] == 0 || sizes[4] == 0 || sizes[6] == 0 || sizes[impl.MaxSize] == 0 {
		t.Errorf("the sizes are %v", sizes)
	}
}

// checkParts holds that both embeddings keep products and Units and lose nothing, and how what they
// lead to is multiplied: v # 1 times 1 # w is v # w, and e(i) passes v as the sum of Com[i][j][k]
// (e(j) v) # e(k).
func checkParts(t *testing.T, s actedSample, smash impl.Algebra) {
	t.Helper()
	p, n, source := s.hopf.Prime, s.hopf.Size, rand.New(rand.NewSource(8))
	v, other := randomVector(source, p, s.algebra.Size), randomVector(source, p, s.algebra.Size)
	w, i := randomVector(source, p, n), n-1
	left, right := embedded(t, s, v, w)
	otherLeft, last := embedded(t, s, other, unitVector(i))
	product, both := embedded(t, s, productByHand(s.algebra, v, other), productByHand(algebraPart(s.hopf), w, unitVector(i)))
	leftUnit, rightUnit := embedded(t, s, s.algebra.Unit, s.hopf.Unit)
	var passed impl.Vector
	for j := range n {
		image := actByHand(p, s.module, unitVector(j), v)
		passed = sumByHand(p, passed, 1, crossByHand(p, n, image, s.hopf.Com[i][j]))
	}
	for _, c := range []struct {
		what      string
		got, want impl.Vector
	}{
		{"the product of two on the left", productByHand(smash, left, otherLeft), product},
		{"the product of two on the right", productByHand(smash, right, last), both},
		{"the Unit on the left", leftUnit, smash.Unit},
		{"the Unit on the right", rightUnit, smash.Unit},
		{"a product of both", productByHand(smash, left, right), crossByHand(p, n, v, w)},
		{"a product of both, turned round", productByHand(smash, last, left), passed},
	} {
		if c.got != c.want {
			t.Errorf("%s: %s is %v, not %v", s.name, c.what, c.got, c.want)
		}
	}
	checkNothingLost(t, s)
}

// checkNothingLost holds that the images of both bases under the embeddings are independent.
func checkNothingLost(t *testing.T, s actedSample) {
	t.Helper()
	var lefts, rights []impl.Vector
	for x := range s.algebra.Size {
		left, _ := embedded(t, s, unitVector(x), s.hopf.Unit)
		lefts = append(lefts, left)
	}
	for i := range s.hopf.Size {
		_, right := embedded(t, s, s.algebra.Unit, unitVector(i))
		rights = append(rights, right)
	}
	size := s.algebra.Size * s.hopf.Size
	first, _ := impl.ReduceVectors(s.hopf.Prime, size, lefts)
	second, _ := impl.ReduceVectors(s.hopf.Prime, size, rights)
	if len(first) != len(lefts) || len(second) != len(rights) {
		t.Errorf("%s: the embeddings have the ranks %d and %d", s.name, len(first), len(second))
	}
}

// TestSmashProductsOfTrivialActions holds that these are tensor products of algebras, which the tensor
// product of Hopf algebras tells for group algebras and functions, and that both algebras are smash
// products with what has the size 1.
func TestSmashProductsOfTrivialActions(t *testing.T) {
	t.Parallel()
	for _, pair := range tensorSamples() {
		k, h := pair.first.hopf, pair.second.hopf
		tensor, _ := impl.TensorHopf(k, h)
		got, code := impl.SmashProduct(h, algebraPart(k), trivialByHand(h, k.Size))
		if got != algebraPart(tensor) || code != impl.ErrNone {
			t.Errorf("%s with %s: %v, %d, not %v", pair.first.name, pair.second.name, got, code, algebraPart(tensor))
		}
	}
	for _, s := range smashHopfs() {
		one := points(s.hopf.Prime, 1)
		if got, code := impl.SmashProduct(s.hopf, one, trivialByHand(s.hopf, 1)); got != algebraPart(s.hopf) || code != impl.ErrNone {
			t.Errorf("%s with the size 1: %v, %d", s.name, got, code)
		}
		least := pointsHopf(one, 0)
		if got, code := impl.SmashProduct(least, algebraPart(s.hopf), trivialByHand(least, s.hopf.Size)); got != algebraPart(s.hopf) || code != impl.ErrNone {
			t.Errorf("the size 1 with %s: %v, %d", s.name, got, code)
		}
	}
}

// TestLimitsOfSmashProducts goes through all pairs of sizes, those with the product 8, which is
// MaxSize, and 9, which exceeds it by one, among them.
func TestLimitsOfSmashProducts(t *testing.T) {
	t.Parallel()
	for _, p := range []int64{2, 31} {
		for n := int64(1); n <= impl.MaxSize; n++ {
			for size := int64(1); size <= impl.MaxSize; size++ {
				h := groupHopf(cyclic(p, n))
				s := actedSample{fmt.Sprint(n, " on ", size, " for ", p), h, points(p, size), trivialByHand(h, size)}
				var smash impl.Algebra
				var left, right impl.Vector
				wantCode := int64(impl.ErrLimit)
				if n*size <= 8 {
					smash, wantCode = smashByHand(s), impl.ErrNone
					left = crossByHand(p, n, unitVector(size-1), h.Unit)
					right = crossByHand(p, n, s.algebra.Unit, unitVector(n-1))
				}
				if got, code := impl.SmashProduct(h, s.algebra, s.module); got != smash || code != wantCode {
					t.Errorf("%s: the smash product is %v, %d, not %d", s.name, got, code, wantCode)
				}
				if got, code := impl.EmbedLeft(h, s.algebra, unitVector(size-1)); got != left || code != wantCode {
					t.Errorf("%s: EmbedLeft returns %v, %d, not %v, %d", s.name, got, code, left, wantCode)
				}
				if got, code := impl.EmbedRight(h, s.algebra, unitVector(n-1)); got != right || code != wantCode {
					t.Errorf("%s: EmbedRight returns %v, %d, not %v, %d", s.name, got, code, right, wantCode)
				}
				if got, code := impl.ConstantsOf(h, s.algebra, s.module); !slices.Equal(got, basisByHand(size)) || code != impl.ErrNone {
					t.Errorf("%s: the constants are %v, %d", s.name, got, code)
				}
			}
		}
	}
}

// TestEmbeddings holds both embeddings against the definition for many vectors, those of zeros among
// them. They do not depend on a module: the algebras here are acted on in several ways.
func TestEmbeddings(t *testing.T) {
	t.Parallel()
	for _, s := range smashHopfs() {
		for _, n := range []int64{1, 2, 3, 4, 8} {
			for _, a := range algebrasOf(s.hopf.Prime, n) {
				pair := actedSample{fmt.Sprint(s.name, " and ", a.name, " of ", n), s.hopf, a.algebra, impl.Module{}}
				if !isSmall(pair) {
					continue
				}
				vectors, others := someVectors(s.hopf.Prime, n), someVectors(s.hopf.Prime, s.hopf.Size)
				for i := range max(len(vectors), len(others)) {
					embedded(t, pair, vectors[i%len(vectors)], others[i%len(others)])
				}
				if left, right := embedded(t, pair, impl.Vector{}, impl.Vector{}); left != (impl.Vector{}) || right != (impl.Vector{}) {
					t.Errorf("%s: 0 is embedded as %v and %v", pair.name, left, right)
				}
			}
		}
	}
}

// TestConstantsOf holds constants against the definition, and that they are what all elements of the
// Hopf algebra commute with in the smash product, among the vectors of the algebra.
func TestConstantsOf(t *testing.T) {
	t.Parallel()
	counts := map[int]int{}
	for _, s := range actedSamples() {
		h, p, m := s.hopf, s.hopf.Prime, s.module
		list, code := impl.ConstantsOf(h, s.algebra, m)
		counts[len(list)]++
		if code != impl.ErrNone || !isReducedByHand(list) || int64(len(list)) != invariantsCount(h, m) {
			t.Errorf("%s: the constants are %v, %d", s.name, list, code)
		}
		if len(reducedByHand(h, m, append(slices.Clone(list), s.algebra.Unit))) != len(list) {
			t.Errorf("%s: the Unit is not in the constants %v", s.name, list)
		}
		for _, v := range list {
			if !isInvariantByHand(h, m, v) || !impl.IsVector(p, m.Dim, v) {
				t.Errorf("%s: %v is no constant", s.name, v)
			}
			for _, w := range list {
				if !isInvariantByHand(h, m, productByHand(s.algebra, v, w)) {
					t.Errorf("%s: the product of the constants %v and %v is none", s.name, v, w)
				}
			}
		}
		if all := allVectors(p, m.Dim); isSmall(s) && len(all) > 0 {
			smash, span := smashByHand(s), spanByHand(p, list)
			for _, v := range all {
				if passes := passesAll(s, smash, v); passes != span[v] {
					t.Errorf("%s: %v commutes with the Hopf algebra: %v", s.name, v, passes)
				}
			}
		}
	}
	if counts[1] == 0 || counts[2] == 0 || counts[3] == 0 || counts[impl.MaxSize] == 0 {
		t.Errorf("the counts of vectors are %v", counts)
	}
}

// passesAll reports whether v # 1 commutes with all 1 # e(i) in a smash product.
func passesAll(s actedSample, smash impl.Algebra, v impl.Vector) bool {
	left := crossByHand(s.hopf.Prime, s.hopf.Size, v, s.hopf.Unit)
	for i := range s.hopf.Size {
		if !commutes(smash, left, crossByHand(s.hopf.Prime, s.hopf.Size, s.algebra.Unit, unitVector(i))) {
			return false
		}
	}
	return true
}

// TestAdjointModule holds adjoint modules against the definition and against adjoint actions (chapter
// 7), the part of the guarantee that they are module algebras, and that their constants are the centre
// (chapter 1).
func TestAdjointModule(t *testing.T) {
	t.Parallel()
	trivial, others := 0, 0
	for _, s := range append(hopfSamples(), smashHopfs()...) {
		h, a := s.hopf, algebraPart(s.hopf)
		m, code := impl.AdjointModule(h)
		checkModule(t, "the adjoint module of "+s.name, h, m, code, adjointByHand(h))
		yes, code := impl.IsModuleAlgebra(h, a, m)
		checkAnswer(t, s.name+" with its adjoint module is a module algebra", yes, code, true)
		centre, _ := impl.CentreOf(a)
		constants, code := impl.ConstantsOf(h, a, m)
		checkSpace(t, s.name+", the constants", constants, code, centre)
		source := rand.New(rand.NewSource(h.Prime + h.Size))
		b, v := randomVector(source, h.Prime, h.Size), randomVector(source, h.Prime, h.Size)
		if want, _ := impl.AdjointAction(h, b, v, false); actByHand(h.Prime, m, b, v) != want {
			t.Errorf("%s: %v leads %v to %v, not %v", s.name, b, v, actByHand(h.Prime, m, b, v), want)
		}
		commutative, _ := impl.IsCommutative(a)
		if commutative != (m == trivialByHand(h, h.Size)) {
			t.Errorf("%s is commutative: %v, and its adjoint module is %v", s.name, commutative, m)
		}
		if commutative {
			trivial++
		} else {
			others++
		}
	}
	if trivial < 50 || others < 50 {
		t.Errorf("%d adjoint modules are trivial, and %d are not", trivial, others)
	}
}

// TestSmashProductsChosen holds smash products and constants against those that were found without the
// program.
func TestSmashProductsChosen(t *testing.T) {
	group, skew := groupHopf(cyclic(3, 2)), sweedlerTables(5)
	e := unitVector
	minus := func(i int64) impl.Vector { return timesByHand(5, 4, e(i)) }
	for _, c := range []struct {
		s         actedSample
		unit      impl.Vector
		mul       impl.Table
		constants []impl.Vector
	}{
		{actedSample{"two points exchanged", group, points(3, 2), impl.Module{Dim: 2, Acts: [8]impl.Linear{{{1}, {0, 1}}, {{0, 1}, {1}}}}},
			impl.Vector{1, 0, 1},
			impl.Table{
				{e(0), e(1)}, {2: e(1), 3: e(0)}, {2: e(2), 3: e(3)}, {e(3), e(2)},
			}, []impl.Vector{{1, 1}}},
		{actedSample{"the derivative of t", lineHopf(2, 0), truncated(2, 2), impl.Module{Dim: 2, Acts: [8]impl.Linear{{{1}, {0, 1}}, {1: {1}}}}},
			impl.Vector{1},
			impl.Table{
				{e(0), e(1), e(2), e(3)}, {0: e(1), 2: {1, 0, 0, 1}, 3: e(1)}, {0: e(2), 1: e(3)}, {0: e(3), 2: e(2), 3: e(3)},
			}, []impl.Vector{{1}}},
		{actedSample{"t of the degree 1 of 0 to 2", dualHopfByHand(groupHopf(cyclic(5, 3))), truncated(5, 2), impl.Module{Dim: 2, Acts: [8]impl.Linear{{{1}}, {1: {0, 1}}}}},
			impl.Vector{1, 1, 1},
			impl.Table{
				{0: e(0), 5: e(5)}, {1: e(1), 3: e(3)}, {2: e(2), 4: e(4)}, {0: e(3)}, {1: e(4)}, {2: e(5)},
			}, []impl.Vector{{1}}},
		{actedSample{"u u = 2 with g and x of Sweedler's", skew, quadratic(5, 2), impl.Module{Dim: 2, Acts: [8]impl.Linear{{{1}, {0, 1}}, {{1}, {0, 4}}, {1: {1}}, {1: {1}}}}},
			impl.Vector{1},
			impl.Table{
				{e(0), e(1), e(2), e(3), e(4), e(5), e(6), e(7)},
				{e(1), e(0), e(3), e(2), minus(5), minus(4), minus(7), minus(6)},
				// x u is 1 - u x, and g x u is 1 g + u g x.
				{e(2), minus(3), {}, {}, {0: 1, 6: 4}, {1: 1, 7: 1}, e(2), e(3)},
				{e(3), minus(2), {}, {}, {1: 1, 7: 1}, {0: 1, 6: 4}, e(3), e(2)},
				{e(4), e(5), e(6), e(7), {2}, {1: 2}, {2: 2}, {3: 2}},
				{e(5), e(4), e(7), e(6), {1: 3}, {3}, {3: 3}, {2: 3}},
				{e(6), minus(7), {}, {}, {2: 3, 4: 1}, {3: 2, 5: 1}, e(6), e(7)},
				{e(7), minus(6), {}, {}, {3: 2, 5: 1}, {2: 3, 4: 1}, e(7), e(6)},
			}, []impl.Vector{{1}}},
	} {
		smash := impl.Algebra{Prime: c.s.hopf.Prime, Size: c.s.hopf.Size * c.s.algebra.Size, Unit: c.unit, Mul: c.mul}
		if got, code := impl.SmashProduct(c.s.hopf, c.s.algebra, c.s.module); got != smash || code != impl.ErrNone {
			t.Errorf("%s: %v, %d, not %v", c.s.name, got, code, smash)
		}
		constants, code := impl.ConstantsOf(c.s.hopf, c.s.algebra, c.s.module)
		checkSpace(t, c.s.name+", the constants", constants, code, c.constants)
	}
}

// TestConstantsChosen holds constants against those that were found without the program, some of
// module algebras whose smash product would be too great.
func TestConstantsChosen(t *testing.T) {
	six := groupHopf(dihedral(31, 3))
	two := groupHopf(cyclic(3, 2))
	e := unitVector
	for _, c := range []struct {
		name    string
		h       impl.Hopf
		a       impl.Algebra
		m       impl.Module
		want    []impl.Vector
		product int64
	}{
		{"classes of turns and reflections", six, algebraPart(six), adjointByHand(six), []impl.Vector{e(0), {0, 1, 1}, {3: 1, 4: 1, 5: 1}}, 36},
		{"points turned", six, points(31, 3), permutationModule(3), []impl.Vector{{1, 1, 1}}, 18},
		{"nothing moved", six, points(31, 3), trivialByHand(six, 3), basisByHand(3), 18},
		{"tables with signs", two, matrices(3), impl.Module{Dim: 4, Acts: [8]impl.Linear{identityByHand(4), diagonal(3, 1, -1, -1, 1)}}, []impl.Vector{e(0), e(3)}, 8},
		{"tables turned", two, matrices(3), impl.Module{Dim: 4, Acts: [8]impl.Linear{identityByHand(4), {{3: 1}, {2: 1}, {0, 1}, {1}}}}, []impl.Vector{{1, 0, 0, 1}, {0, 1, 1}}, 8},
		{"even powers", lineHopf(2, 0), truncated(2, 8), derivativeModule(2, 8), []impl.Vector{e(0), e(2), e(4), e(6)}, 16},
		{"the derivative for 3, 9", lineHopf(3, 0), truncated(3, 3), derivativeModule(3, 3), []impl.Vector{e(0)}, 9},
		{"powers of the degree 0 of 0 to 2", lineHopf(3, 1), truncated(3, 7), eulerModule(3, 7), []impl.Vector{e(0), e(3), e(6)}, 21},
		{"the size 1", two, slantedUnit(3), trivialByHand(two, 1), []impl.Vector{{1}}, 2},
	} {
		got, code := impl.ConstantsOf(c.h, c.a, c.m)
		checkSpace(t, c.name+", the constants", got, code, c.want)
		smash, code := impl.SmashProduct(c.h, c.a, c.m)
		wantSize, wantCode := c.product, int64(impl.ErrNone)
		if c.product > impl.MaxSize {
			wantSize, wantCode = 0, impl.ErrLimit
		}
		if smash.Size != wantSize || code != wantCode {
			t.Errorf("%s: the smash product is %v, %d, not of the size %d", c.name, smash, code, wantSize)
		}
	}
}

// TestEmbeddingsChosen holds embeddings against those that were found without the program.
func TestEmbeddingsChosen(t *testing.T) {
	two, functions, six := groupHopf(cyclic(5, 2)), dualHopfByHand(groupHopf(cyclic(5, 2))), groupHopf(dihedral(5, 3))
	for _, c := range []struct {
		name        string
		h           impl.Hopf
		a           impl.Algebra
		v, w        impl.Vector
		left, right impl.Vector
	}{
		{"group and points", two, points(5, 3), impl.Vector{1, 2, 3}, impl.Vector{1, 4}, impl.Vector{1, 0, 2, 0, 3}, impl.Vector{1, 4, 1, 4, 1, 4}},
		{"functions and powers", functions, truncated(5, 3), impl.Vector{1, 2, 3}, impl.Vector{1, 4}, impl.Vector{1, 1, 2, 2, 3, 3}, impl.Vector{1, 4}},
		{"functions and tables", functions, matrices(5), impl.Vector{0, 0, 2}, impl.Vector{0, 3}, impl.Vector{4: 2, 5: 2}, impl.Vector{1: 3, 7: 3}},
		{"a group and the size 1", six, slantedUnit(5), impl.Vector{2}, impl.Vector{0, 1, 0, 2, 0, 3}, impl.Vector{2}, impl.Vector{0, 4, 0, 3, 0, 2}},
		{"the size 1 and a group", scaledHopf(), cyclic(31, 8), impl.Vector{1, 7: 11}, impl.Vector{30}, impl.Vector{3, 7: 2}, impl.Vector{30}},
		{"vectors of zeros", two, cyclic(5, 4), impl.Vector{}, impl.Vector{}, impl.Vector{}, impl.Vector{}},
	} {
		if got, code := impl.EmbedLeft(c.h, c.a, c.v); got != c.left || code != impl.ErrNone {
			t.Errorf("%s: EmbedLeft returns %v, %d, not %v", c.name, got, code, c.left)
		}
		if got, code := impl.EmbedRight(c.h, c.a, c.w); got != c.right || code != impl.ErrNone {
			t.Errorf("%s: EmbedRight returns %v, %d, not %v", c.name, got, code, c.right)
		}
	}
}

// checkComodule holds that a function returned the comodule that is wanted, and that it is one.
func checkComodule(t *testing.T, name string, h impl.Hopf, got impl.Comodule, code int64, want impl.Comodule) {
	t.Helper()
	if got != want || code != impl.ErrNone {
		t.Errorf("%s: %v, %d, not %v", name, got, code, want)
	}
	if !impl.IsComodule(h, got) {
		t.Errorf("%s is no comodule", name)
	}
}

func TestIsComodule(t *testing.T) {
	t.Parallel()
	dims := map[int64]int{}
	for _, s := range comoduleSamples() {
		if facts := comoduleFactsByHand(s.hopf, s.comodule); !facts.isComodule() {
			t.Errorf("%s is no comodule by hand: %+v", s.name, facts)
		}
		if !impl.IsComodule(s.hopf, s.comodule) {
			t.Errorf("%s is no comodule", s.name)
		}
		dims[s.comodule.Dim]++
	}
	for dim := int64(1); dim <= impl.MaxSize; dim++ {
		if dims[dim] == 0 {
			t.Errorf("no sample has the Dim %d", dim)
		}
	}
}

func TestIsComoduleOfBroken(t *testing.T) {
	t.Parallel()
	for _, b := range brokenComodules() {
		if comoduleFactsByHand(b.hopf, b.comodule).isComodule() {
			t.Errorf("%s: it is a comodule by hand", b.name)
		}
		if impl.IsComodule(b.hopf, b.comodule) {
			t.Errorf("%s: it is a comodule", b.name)
		}
	}
}

// TestIsComoduleOfChangedSamples changes one number of each sample.
func TestIsComoduleOfChangedSamples(t *testing.T) {
	t.Parallel()
	source := rand.New(rand.NewSource(8))
	for _, s := range comoduleSamples() {
		c := s.comodule
		i, j, k := source.Int63n(c.Dim), source.Int63n(c.Dim), source.Int63n(s.hopf.Size)
		c.Co[i][j][k] = byte((int64(c.Co[i][j][k]) + 1 + source.Int63n(s.hopf.Prime-1)) % s.hopf.Prime)
		if got := impl.IsComodule(s.hopf, c); got != comoduleFactsByHand(s.hopf, c).isComodule() {
			t.Errorf("%s, changed at %d, %d, %d: %v", s.name, i, j, k, got)
		}
	}
}

// TestIsComoduleOfAllSmall goes through all tables for Hopf algebras of the size 2, some of which have
// just the one or the other of what is required.
func TestIsComoduleOfAllSmall(t *testing.T) {
	t.Parallel()
	group2, group3 := groupHopf(cyclic(2, 2)), groupHopf(cyclic(3, 2))
	seen := map[comoduleFacts]int{}
	for _, c := range []struct {
		name string
		hopf impl.Hopf
		dim  int64
		want int
	}{
		// The degree of v(0).
		{"degrees, Dim 1 for 3", group3, 1, 2},
		// All have the same degree, or the two of them have lines of their own.
		{"degrees for 2", group2, 2, 8},
		{"degrees for 3", group3, 2, 14},
		// An element with the square 1 acts: 1, and three others; 1, - 1, and twelve others.
		{"actions for 2", dualHopfByHand(group2), 2, 4},
		{"actions for 3", dualHopfByHand(group3), 2, 14},
		// An x with x x = 0 acts, and one with x x = 1.
		{"the line", lineHopf(2, 0), 2, 4},
		{"the split line", lineHopf(2, 1), 2, 4},
		{"the dual of the line", dualHopfByHand(lineHopf(2, 0)), 2, 4},
		{"the dual of the split line", dualHopfByHand(lineHopf(2, 1)), 2, 8},
	} {
		count := 0
		for place := range power(c.hopf.Prime, 2*c.dim*c.dim) {
			comodule := impl.Comodule{Dim: c.dim}
			rest := place
			for entry := range 2 * c.dim * c.dim {
				comodule.Co[entry/2/c.dim][entry/2%c.dim][entry%2] = byte(rest % c.hopf.Prime)
				rest /= c.hopf.Prime
			}
			facts := comoduleFactsByHand(c.hopf, comodule)
			seen[facts]++
			if facts.isComodule() {
				count++
			}
			if got := impl.IsComodule(c.hopf, comodule); got != facts.isComodule() {
				t.Errorf("%s: %v is a comodule: %v", c.name, comodule, got)
			}
		}
		if count != c.want {
			t.Errorf("%s: %d comodules, not %d", c.name, count, c.want)
		}
	}
	for _, facts := range []comoduleFacts{{true, true, true}, {true, true, false}, {true, false, true}, {true, false, false}} {
		if seen[facts] == 0 {
			t.Errorf("no table has %+v", facts)
		}
	}
}

// TestRegularComodule holds regular comodules against the definition, and the part of the guarantee
// that their coinvariants are the multiples of the Unit.
func TestRegularComodule(t *testing.T) {
	t.Parallel()
	for _, s := range append(integralSamples(), smashHopfs()...) {
		got, code := impl.RegularComodule(s.hopf)
		checkComodule(t, "the regular comodule of "+s.name, s.hopf, got, code, impl.Comodule{Dim: s.hopf.Size, Co: s.hopf.Com})
		coinvariants, code := impl.CoinvariantsOf(s.hopf, got)
		checkSpace(t, s.name+", the coinvariants", coinvariants, code, spaceOf(s.hopf, s.hopf.Unit))
	}
}

// TestTrivialComodule holds trivial comodules against the definition, and the part of promise 14 that
// they have all vectors as coinvariants.
func TestTrivialComodule(t *testing.T) {
	t.Parallel()
	for _, s := range append(hopfSamples(), smashHopfs()...) {
		for _, dim := range []int64{1, 2, 7, impl.MaxSize} {
			name := fmt.Sprint(s.name, ", trivial ", dim)
			got, code := impl.TrivialComodule(s.hopf, dim)
			checkComodule(t, name, s.hopf, got, code, trivialComoduleByHand(s.hopf, dim))
			coinvariants, code := impl.CoinvariantsOf(s.hopf, got)
			checkSpace(t, name+", the coinvariants", coinvariants, code, basisByHand(dim))
		}
		for _, dim := range []int64{-1 << 63, -1, 0, impl.MaxSize + 1, 256, 257, 1 << 32, 1<<63 - 1} {
			if got, code := impl.TrivialComodule(s.hopf, dim); got != (impl.Comodule{}) || code != impl.ErrRange {
				t.Errorf("%s, trivial %d: %v, %d", s.name, dim, got, code)
			}
		}
	}
}

// coinvariantsCount returns the dimension of the coinvariants: the Dim less the rank of all linear
// functions that tell a number of what v leads to less v (x) Unit.
func coinvariantsCount(h impl.Hopf, c impl.Comodule) int64 {
	var functions []impl.Vector
	for j := range c.Dim {
		for k := range h.Size {
			var f impl.Vector
			for i := range c.Dim {
				f[i] = c.Co[i][j][k]
			}
			functions = append(functions, sumByHand(h.Prime, f, h.Prime-int64(h.Unit[k]), unitVector(j)))
		}
	}
	reduced, _ := impl.ReduceVectors(h.Prime, c.Dim, functions)
	return c.Dim - int64(len(reduced))
}

// isCoinvariantByHand reports whether v leads to v (x) Unit.
func isCoinvariantByHand(h impl.Hopf, c impl.Comodule, v impl.Vector) bool {
	return coactByHand(h.Prime, c, v) == pairByHand(h.Prime, v, h.Unit)
}

// TestCoinvariantsOf holds coinvariants against the definition; where there are few vectors, all are
// gone through. They are the invariants of the dual module.
func TestCoinvariantsOf(t *testing.T) {
	t.Parallel()
	counts := map[int]int{}
	for _, s := range comoduleSamples() {
		h, c := s.hopf, s.comodule
		list, code := impl.CoinvariantsOf(h, c)
		counts[len(list)]++
		if code != impl.ErrNone || !isReducedByHand(list) || int64(len(list)) != coinvariantsCount(h, c) {
			t.Errorf("%s: the coinvariants are %v, %d", s.name, list, code)
		}
		for _, v := range list {
			if !isCoinvariantByHand(h, c, v) || !impl.IsVector(h.Prime, c.Dim, v) {
				t.Errorf("%s: %v is no coinvariant", s.name, v)
			}
		}
		if all := allVectors(h.Prime, c.Dim); len(all) > 0 {
			span := spanByHand(h.Prime, list)
			for _, v := range all {
				if span[v] != isCoinvariantByHand(h, c, v) {
					t.Errorf("%s: %v is a coinvariant by hand: %v", s.name, v, !span[v])
				}
			}
		}
		own, _ := impl.ModuleOfComodule(h, c)
		invariants, _ := impl.InvariantsOf(dualHopfByHand(h), own)
		checkSpace(t, s.name+", the coinvariants", list, code, invariants)
	}
	if counts[0] == 0 || counts[1] == 0 || counts[2] == 0 || counts[impl.MaxSize] == 0 {
		t.Errorf("the counts of vectors are %v", counts)
	}
}

// TestModuleOfComodule holds dual modules against the definition, and the second part of promise 8 and
// of the guarantee: comodules come back from them.
func TestModuleOfComodule(t *testing.T) {
	t.Parallel()
	for _, s := range comoduleSamples() {
		h, c, dual := s.hopf, s.comodule, dualHopfByHand(s.hopf)
		m, code := impl.ModuleOfComodule(h, c)
		if m.Dim != c.Dim || code != impl.ErrNone || !impl.IsModule(dual, m) {
			t.Errorf("%s: the dual module is %v, %d", s.name, m, code)
		}
		for k := range h.Size {
			for i := range c.Dim {
				var want impl.Vector
				for j := range c.Dim {
					want[j] = c.Co[i][j][k]
				}
				if got := actByHand(h.Prime, m, unitVector(k), unitVector(i)); got != want {
					t.Errorf("%s: f(%d) leads v(%d) to %v, not %v", s.name, k, i, got, want)
				}
			}
		}
		back, code := impl.ComoduleOfModule(dual, m)
		checkComodule(t, s.name+", come back", h, back, code, c)
	}
}

// TestComoduleOfModule holds that modules come back from the comodules whose dual modules they are,
// and that these are comodules of the dual by hand.
func TestComoduleOfModule(t *testing.T) {
	t.Parallel()
	for _, s := range moduleSamples() {
		h, m, dual := s.hopf, s.module, dualHopfByHand(s.hopf)
		c, code := impl.ComoduleOfModule(h, m)
		checkComodule(t, "the comodule of "+s.name, dual, c, code, comoduleByHand(m))
		if !comoduleFactsByHand(dual, c).isComodule() {
			t.Errorf("%s: %v is no comodule of the dual", s.name, c)
		}
		back, code := impl.ModuleOfComodule(dual, c)
		checkModule(t, s.name+", come back", h, back, code, m)
	}
}

// TestKindsOfComodules holds that the comodules of trivial modules of the dual are trivial, and that
// the dual module of the regular comodule makes the algebra of h a module algebra.
func TestKindsOfComodules(t *testing.T) {
	t.Parallel()
	for _, s := range smashHopfs() {
		h, dual := s.hopf, dualHopfByHand(s.hopf)
		trivial, _ := impl.TrivialModule(dual, 3)
		c, code := impl.ComoduleOfModule(dual, trivial)
		checkComodule(t, s.name+", of the trivial module", h, c, code, trivialComoduleByHand(h, 3))
		m, code := impl.ModuleOfComodule(h, impl.Comodule{Dim: h.Size, Co: h.Com})
		checkModule(t, s.name+", of the regular comodule", dual, m, code, hitModule(h))
		yes, code := impl.IsModuleAlgebra(dual, algebraPart(h), m)
		checkAnswer(t, s.name+" is a module algebra of its dual", yes, code, true)
		constants, code := impl.ConstantsOf(dual, algebraPart(h), m)
		checkSpace(t, s.name+", the constants", constants, code, spaceOf(h, h.Unit))
	}
}

// TestComodulesChosen holds comodules against what was found without the program.
func TestComodulesChosen(t *testing.T) {
	three, w := groupHopf(cyclic(31, 3)), sweedlerTables(31)
	functions, line := dualHopfByHand(groupHopf(dihedral(5, 3))), lineHopf(3, 0)
	e := unitVector
	for _, c := range []struct {
		name         string
		h            impl.Hopf
		comodule     impl.Comodule
		acts         [8]impl.Linear
		coinvariants []impl.Vector
	}{
		{"v to v (x) g", w, impl.Comodule{Dim: 1, Co: impl.Table{{{0, 1}}}}, [8]impl.Linear{1: {{1}}}, nil},
		{"v to v (x) 1", w, impl.Comodule{Dim: 1, Co: impl.Table{{{1}}}}, [8]impl.Linear{{{1}}}, []impl.Vector{{1}}},
		{"g and x", w, ladder(), [8]impl.Linear{{1: {0, 1}}, {{1}}, {1: {1}}}, nil},
		{"1 and g x", w, impl.Comodule{Dim: 2, Co: impl.Table{{{1}}, {{0, 0, 0, 1}, {0, 1}}}},
			[8]impl.Linear{{{1}}, {1: {0, 1}}, {}, {1: {1}}}, []impl.Vector{{1}}},
		{"the degrees 0, 2 and 0", three, impl.Comodule{Dim: 3, Co: impl.Table{{e(0)}, {1: e(2)}, {2: e(0)}}},
			[8]impl.Linear{{{1}, {}, {0, 0, 1}}, {}, {1: {0, 1}}}, []impl.Vector{e(0), e(2)}},
		// The reflections 3, 4 and 5 leave the points 0, 2 and 1, and the turns 1 and 2 leave none.
		{"three points of functions", functions, impl.Comodule{Dim: 3, Co: impl.Table{
			{{0: 1, 3: 1}, {1: 1, 4: 1}, {2: 1, 5: 1}}, {{2: 1, 4: 1}, {0: 1, 5: 1}, {1: 1, 3: 1}}, {{1: 1, 5: 1}, {2: 1, 3: 1}, {0: 1, 4: 1}},
		}}, permutationModule(3).Acts, []impl.Vector{{1, 1, 1}}},
		// v(2) to v(2) (x) 1 + v(1) (x) 2 x + v(0) (x) x x.
		{"powers of the line", line, impl.Comodule{Dim: 3, Co: impl.Table{{{1}}, {{0, 1}, {1}}, {{0, 0, 1}, {0, 2}, {1}}}},
			[8]impl.Linear{identityByHand(3), {1: {1}, 2: {0, 2}}, {2: {1}}}, []impl.Vector{e(0)}},
		{"the Unit 3 e(0)", scaledHopf(), impl.Comodule{Dim: 2, Co: impl.Table{{{3}}, {1: {3}}}}, [8]impl.Linear{{{3}, {0, 3}}}, basisByHand(2)},
	} {
		if !impl.IsComodule(c.h, c.comodule) {
			t.Errorf("%s: it is no comodule", c.name)
		}
		m, code := impl.ModuleOfComodule(c.h, c.comodule)
		checkModule(t, c.name+", the dual module", dualHopfByHand(c.h), m, code, impl.Module{Dim: c.comodule.Dim, Acts: c.acts})
		back, code := impl.ComoduleOfModule(dualHopfByHand(c.h), m)
		checkComodule(t, c.name+", come back", c.h, back, code, c.comodule)
		coinvariants, code := impl.CoinvariantsOf(c.h, c.comodule)
		checkSpace(t, c.name+", the coinvariants", coinvariants, code, c.coinvariants)
	}
}

// checkNone holds that a call returned zero values and the code that is wanted.
func checkNone(t *testing.T, name string, zero bool, code, want int64) {
	t.Helper()
	if !zero || code != want {
		t.Errorf("%s: the code %d, not %d, and zero values: %v", name, code, want, zero)
	}
}

// checkNoAction calls all functions of an algebra with a module, and holds that they return the code
// that is wanted.
func checkNoAction(t *testing.T, s actedSample, want int64) {
	t.Helper()
	yes, code := impl.IsModuleAlgebra(s.hopf, s.algebra, s.module)
	checkNone(t, s.name+", IsModuleAlgebra", !yes, code, want)
	smash, code := impl.SmashProduct(s.hopf, s.algebra, s.module)
	checkNone(t, s.name+", SmashProduct", smash == impl.Algebra{}, code, want)
	constants, code := impl.ConstantsOf(s.hopf, s.algebra, s.module)
	checkNone(t, s.name+", ConstantsOf", len(constants) == 0, code, want)
}

// checkNoEmbedding calls both embeddings with a vector each, and holds that they return the codes that
// are wanted.
func checkNoEmbedding(t *testing.T, s actedSample, v, w impl.Vector, wantLeft, wantRight int64) {
	t.Helper()
	left, code := impl.EmbedLeft(s.hopf, s.algebra, v)
	checkNone(t, fmt.Sprint(s.name, ", EmbedLeft of ", v), left == impl.Vector{}, code, wantLeft)
	right, code := impl.EmbedRight(s.hopf, s.algebra, w)
	checkNone(t, fmt.Sprint(s.name, ", EmbedRight of ", w), right == impl.Vector{}, code, wantRight)
}

// checkNoComodule calls all functions of a comodule with what is none.
func checkNoComodule(t *testing.T, name string, h impl.Hopf, c impl.Comodule) {
	t.Helper()
	if impl.IsComodule(h, c) {
		t.Errorf("%s: it is a comodule", name)
	}
	coinvariants, code := impl.CoinvariantsOf(h, c)
	checkNone(t, name+", CoinvariantsOf", len(coinvariants) == 0, code, impl.ErrInvalid)
	m, code := impl.ModuleOfComodule(h, c)
	checkNone(t, name+", ModuleOfComodule", m == impl.Module{}, code, impl.ErrInvalid)
}

// checkNoModule calls the function of a module with what is none.
func checkNoModule(t *testing.T, name string, h impl.Hopf, m impl.Module) {
	t.Helper()
	c, code := impl.ComoduleOfModule(h, m)
	checkNone(t, name+", ComoduleOfModule", c == impl.Comodule{}, code, impl.ErrInvalid)
}

// TestInvalidHopfOfSmash has tables that are no Hopf algebras, for each axiom that can fail first,
// with what would be algebras, modules and comodules of most, and with what is invalid, has another
// prime, or is too great.
func TestInvalidHopfOfSmash(t *testing.T) {
	t.Parallel()
	for _, b := range append(brokenShapes(), brokenAxioms()...) {
		h := b.hopf
		one, trivial := impl.Module{Dim: 1}, impl.Comodule{Dim: 1, Co: impl.Table{{h.Unit}}}
		for i, x := range h.Counit {
			one.Acts[i][0][0] = x
		}
		for _, a := range []impl.Algebra{algebraPart(h), points(3, 1), points(h.Prime, 1), points(31, 8), {}} {
			for _, m := range []impl.Module{one, regularByHand(h), {}} {
				s := actedSample{fmt.Sprint(b.name, " and the size ", a.Size, " for ", a.Prime), h, a, m}
				checkNoAction(t, s, impl.ErrInvalid)
				checkNoEmbedding(t, s, a.Unit, h.Unit, impl.ErrInvalid, impl.ErrInvalid)
				checkNoEmbedding(t, s, impl.Vector{}, impl.Vector{}, impl.ErrInvalid, impl.ErrInvalid)
				checkNoModule(t, b.name, h, m)
			}
		}
		for _, c := range []impl.Comodule{trivial, {Dim: h.Size, Co: h.Com}, {}} {
			checkNoComodule(t, b.name, h, c)
		}
		adjoint, code := impl.AdjointModule(h)
		checkNone(t, b.name+", AdjointModule", adjoint == impl.Module{}, code, impl.ErrInvalid)
		regular, code := impl.RegularComodule(h)
		checkNone(t, b.name+", RegularComodule", regular == impl.Comodule{}, code, impl.ErrInvalid)
		for _, dim := range []int64{1, 8, 0, 9, -1} {
			c, code := impl.TrivialComodule(h, dim)
			checkNone(t, fmt.Sprint(b.name, ", TrivialComodule of ", dim), c == impl.Comodule{}, code, impl.ErrInvalid)
		}
	}
}

// TestInvalidAlgebrasOfSmash has tables that are no algebras, with modules of what would be their
// size, Hopf algebras of another prime, and others that are too great.
func TestInvalidAlgebrasOfSmash(t *testing.T) {
	t.Parallel()
	for _, b := range brokenAlgebras() {
		for _, h := range []impl.Hopf{groupHopf(cyclic(3, 1)), groupHopf(cyclic(3, 2)), skewHopf(3, 2, 0), groupHopf(cyclic(31, 8))} {
			s := actedSample{fmt.Sprint(b.name, " with the size ", h.Size, " for ", h.Prime), h, b.algebra, trivialByHand(h, max(1, min(8, b.algebra.Size)))}
			checkNoAction(t, s, impl.ErrInvalid)
			checkNoEmbedding(t, s, b.algebra.Unit, h.Unit, impl.ErrInvalid, impl.ErrInvalid)
			checkNoEmbedding(t, s, impl.Vector{}, impl.Vector{}, impl.ErrInvalid, impl.ErrInvalid)
			s.module = trivialByHand(h, 5)
			checkNoAction(t, s, impl.ErrInvalid)
		}
	}
}

// TestInvalidModulesOfSmash has what is no module, with algebras of what would be its Dim, and of other
// sizes and primes.
func TestInvalidModulesOfSmash(t *testing.T) {
	t.Parallel()
	for _, b := range brokenModules() {
		size := max(1, min(8, b.module.Dim))
		for _, a := range []impl.Algebra{points(b.hopf.Prime, size), truncated(b.hopf.Prime, 9-size), points(5, size), points(5, 8)} {
			checkNoAction(t, actedSample{fmt.Sprint(b.name, " on the size ", a.Size, " for ", a.Prime), b.hopf, a, b.module}, impl.ErrInvalid)
		}
		checkNoModule(t, b.name, b.hopf, b.module)
	}
}

func TestInvalidComodules(t *testing.T) {
	t.Parallel()
	for _, b := range brokenComodules() {
		checkNoComodule(t, b.name, b.hopf, b.comodule)
	}
}

// TestErrorsOfActions has the errors of algebras with modules in their order, each one ahead of those
// that are behind it.
func TestErrorsOfActions(t *testing.T) {
	two, six := groupHopf(cyclic(3, 2)), groupHopf(dihedral(3, 3))
	swap := impl.Module{Dim: 2, Acts: [8]impl.Linear{{{1}, {0, 1}}, {{0, 1}, {1}}}}
	// g leads the Unit to itself, and t and t t to their negatives.
	signs := impl.Module{Dim: 3, Acts: [8]impl.Linear{identityByHand(3), diagonal(3, 1, -1, -1)}}
	unitless := impl.Algebra{Prime: 5, Size: 2, Unit: impl.Vector{1, 1}}
	for _, c := range []struct {
		name string
		h    impl.Hopf
		a    impl.Algebra
		m    impl.Module
		want int64
	}{
		{"another prime", two, points(5, 2), swap, impl.ErrRange},
		{"another prime, the size 1", two, points(2, 1), trivialByHand(two, 1), impl.ErrRange},
		{"another prime, too great", six, points(31, 3), permutationModule(3), impl.ErrRange},
		{"another prime and Dim", two, points(5, 3), swap, impl.ErrRange},
		{"another prime, no module algebra", two, truncated(5, 2), swap, impl.ErrRange},
		{"a greater Dim", two, points(3, 1), swap, impl.ErrRange},
		{"a smaller Dim", two, points(3, 3), swap, impl.ErrRange},
		{"a smaller Dim, too great", six, points(3, 8), permutationModule(3), impl.ErrRange},
		{"the Dim of the size of the Hopf algebra", six, points(3, 5), trivialByHand(six, 6), impl.ErrRange},
		{"no module algebra", two, truncated(3, 2), swap, impl.ErrState},
		{"signs that keep the Unit", two, truncated(3, 3), signs, impl.ErrState},
		{"regular", two, algebraPart(two), regularByHand(two), impl.ErrState},
		{"no module algebra, too great", six, algebraPart(six), regularByHand(six), impl.ErrState},
		{"no module algebra, too great, with the Unit", six, truncated(3, 3), permutationModule(3), impl.ErrState},
		{"no algebra, another prime", two, unitless, swap, impl.ErrInvalid},
		{"no module, another prime", two, points(5, 2), impl.Module{Dim: 2}, impl.ErrInvalid},
		{"no module, another Dim", two, points(3, 1), impl.Module{Dim: 2}, impl.ErrInvalid},
		{"a module of the other prime", groupHopf(cyclic(3, 3)), points(7, 1), impl.Module{Dim: 1, Acts: [8]impl.Linear{{{1}}, {{2}}, {{4}}}}, impl.ErrInvalid},
	} {
		s := actedSample{c.name, c.h, c.a, c.m}
		if c.want == impl.ErrState {
			checkAction(t, s, false)
			continue
		}
		checkNoAction(t, s, c.want)
	}
	tooGreat := actedSample{"three points of six", six, points(3, 3), permutationModule(3)}
	checkAction(t, tooGreat, true)
	smash, code := impl.SmashProduct(six, tooGreat.algebra, tooGreat.module)
	checkNone(t, tooGreat.name, smash == impl.Algebra{}, code, impl.ErrLimit)
}

// TestErrorsOfEmbeddings has vectors that are none for the one or the other algebra, other primes, and
// sizes that are too great.
func TestErrorsOfEmbeddings(t *testing.T) {
	two, six := groupHopf(cyclic(3, 2)), groupHopf(dihedral(31, 3))
	const invalid, otherPrime, limit = impl.ErrInvalid, impl.ErrRange, impl.ErrLimit
	for _, c := range []struct {
		name        string
		h           impl.Hopf
		a           impl.Algebra
		v, w        impl.Vector
		left, right int64
	}{
		{"3", two, points(3, 3), impl.Vector{3}, impl.Vector{3}, invalid, invalid},
		{"4 for 1 at the end", two, points(3, 3), impl.Vector{2: 4}, impl.Vector{1: 4}, invalid, invalid},
		{"255", two, points(3, 3), impl.Vector{1: 255}, impl.Vector{1: 255}, invalid, invalid},
		{"behind the sizes", two, points(3, 3), impl.Vector{3: 1}, impl.Vector{2: 1}, invalid, invalid},
		{"at the end", two, points(3, 3), impl.Vector{7: 1}, impl.Vector{7: 1}, invalid, invalid},
		{"behind the other size, too great", six, cyclic(31, 2), impl.Vector{2: 1}, impl.Vector{6: 1}, invalid, invalid},
		{"too great", six, cyclic(31, 2), impl.Vector{1: 1}, impl.Vector{5: 1}, limit, limit},
		{"0, too great", six, cyclic(31, 2), impl.Vector{}, impl.Vector{}, limit, limit},
		{"other primes", two, cyclic(31, 2), impl.Vector{30, 30}, impl.Vector{2, 2}, otherPrime, otherPrime},
		{"0, other primes", two, cyclic(31, 2), impl.Vector{}, impl.Vector{}, otherPrime, otherPrime},
		{"numbers for the other prime", two, cyclic(31, 2), impl.Vector{31}, impl.Vector{30}, invalid, invalid},
		{"numbers for the other prime, turned round", six, cyclic(3, 1), impl.Vector{30}, impl.Vector{31}, invalid, invalid},
		{"other primes, turned round", six, cyclic(3, 1), impl.Vector{2}, impl.Vector{5: 30}, otherPrime, otherPrime},
		{"other primes, too great", six, cyclic(3, 2), impl.Vector{2}, impl.Vector{5: 30}, otherPrime, otherPrime},
		{"other primes, too great, one vector", six, cyclic(3, 2), impl.Vector{3}, impl.Vector{5: 30}, invalid, otherPrime},
	} {
		checkNoEmbedding(t, actedSample{c.name, c.h, c.a, impl.Module{}}, c.v, c.w, c.left, c.right)
	}
	if left, code := impl.EmbedLeft(two, points(3, 4), impl.Vector{3: 2}); left != (impl.Vector{6: 2}) || code != impl.ErrNone {
		t.Errorf("the last of four points is embedded as %v, %d", left, code)
	}
}

// TestListsOfSmashShareNothing holds that no two lists that are returned share memory.
func TestListsOfSmashShareNothing(t *testing.T) {
	h := groupHopf(dihedral(5, 3))
	a, m := algebraPart(h), adjointByHand(h)
	c := trivialComoduleByHand(h, 4)
	for name, list := range map[string]func() ([]impl.Vector, int64){
		"ConstantsOf":    func() ([]impl.Vector, int64) { return impl.ConstantsOf(h, a, m) },
		"CoinvariantsOf": func() ([]impl.Vector, int64) { return impl.CoinvariantsOf(h, c) },
	} {
		first, _ := list()
		wanted := slices.Clone(first)
		second, _ := list()
		for i := range second {
			second[i] = impl.Vector{77}
		}
		_ = append(second, impl.Vector{77})
		if third, code := list(); !slices.Equal(first, wanted) || !slices.Equal(third, wanted) || code != impl.ErrNone {
			t.Errorf("%s: the lists are changed to %v and %v", name, first, third)
		}
	}
}
