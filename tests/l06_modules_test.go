package tests

import (
	"fmt"
	"math/rand"
	"slices"
	"testing"

	"loop.example/g01230/impl"
)

// checkModule holds that a function returned the module that is wanted, and that it is one.
func checkModule(t *testing.T, name string, h impl.Hopf, got impl.Module, code int64, want impl.Module) {
	t.Helper()
	if got != want || code != impl.ErrNone {
		t.Errorf("%s: %v, %d, not %v", name, got, code, want)
	}
	if !impl.IsModule(h, got) {
		t.Errorf("%s is no module", name)
	}
}

// smallPairs returns the pairs of modules of the same Hopf algebra for the samples of small ones.
func smallPairs() [][2]moduleSample {
	var pairs [][2]moduleSample
	samples := smallModuleSamples()
	for _, s := range samples {
		for _, u := range samples {
			if s.hopf == u.hopf {
				pairs = append(pairs, [2]moduleSample{s, u})
			}
		}
	}
	return pairs
}

// modulePairs returns pairs of modules of the same Hopf algebra whose Dims fit a condition: all of the
// small ones, and some of the others.
func modulePairs(fits func(m, k int64) bool) [][2]moduleSample {
	var pairs [][2]moduleSample
	for _, pair := range smallPairs() {
		if fits(pair[0].module.Dim, pair[1].module.Dim) {
			pairs = append(pairs, pair)
		}
	}
	for _, h := range moduleHopfs() {
		list := modulesOf(h)
		count := 0
		for i := range list {
			for j := range list {
				pair := [2]moduleSample{list[(i+j)%len(list)], list[j]}
				if count < 8 && fits(pair[0].module.Dim, pair[1].module.Dim) {
					count++
					pairs = append(pairs, pair)
				}
			}
		}
	}
	return pairs
}

func TestIsModule(t *testing.T) {
	t.Parallel()
	dims := map[int64]int{}
	for _, s := range moduleSamples() {
		if !isModuleByHand(s.hopf, s.module) {
			t.Errorf("%s is no module by hand", s.name)
		}
		if !impl.IsModule(s.hopf, s.module) {
			t.Errorf("%s is no module", s.name)
		}
		dims[s.module.Dim]++
	}
	for dim := int64(1); dim <= impl.MaxSize; dim++ {
		if dims[dim] == 0 {
			t.Errorf("no sample has the Dim %d", dim)
		}
	}
}

func TestIsModuleOfBroken(t *testing.T) {
	t.Parallel()
	for _, b := range brokenModules() {
		if isModuleByHand(b.hopf, b.module) {
			t.Errorf("%s: it is a module by hand", b.name)
		}
		if impl.IsModule(b.hopf, b.module) {
			t.Errorf("%s: it is a module", b.name)
		}
	}
}

// TestIsModuleOfChangedSamples changes one number of each sample.
func TestIsModuleOfChangedSamples(t *testing.T) {
	t.Parallel()
	source := rand.New(rand.NewSource(6))
	for _, s := range moduleSamples() {
		m := s.module
		i, j, k := source.Int63n(s.hopf.Size), source.Int63n(m.Dim), source.Int63n(m.Dim)
		m.Acts[i][j][k] = byte((int64(m.Acts[i][j][k]) + 1 + source.Int63n(s.hopf.Prime-1)) % s.hopf.Prime)
		if got := impl.IsModule(s.hopf, m); got != isModuleByHand(s.hopf, m) {
			t.Errorf("%s, changed at %d, %d, %d: %v", s.name, i, j, k, got)
		}
	}
}

// TestIsModuleOfAllSmall goes through all lists of linear maps for Hopf algebras of size 2.
func TestIsModuleOfAllSmall(t *testing.T) {
	t.Parallel()
	for _, s := range []struct {
		hopf impl.Hopf
		dim  int64
		want int
	}{
		// s with s s = 1: 1 and -1.
		{groupHopf(cyclic(3, 2)), 1, 2},
		// 1, -1, and twelve with the trace 0 and the determinant -1.
		{groupHopf(cyclic(3, 2)), 2, 14},
		// 1, and three others with (s - 1) (s - 1) = 0.
		{groupHopf(cyclic(2, 2)), 2, 4},
		// x with x x = 0: 0, and three others.
		{lineHopf(2, 0), 2, 4},
		// x with x x = x: 0, 1, and six others.
		{lineHopf(2, 1), 2, 8},
		{groupHopf(cyclic(2, 1)), 2, 1},
	} {
		count := 0
		all := allLinear(s.hopf.Prime, s.dim, s.dim)
		for _, first := range all {
			for _, second := range all {
				m := impl.Module{Dim: s.dim, Acts: [8]impl.Linear{first, second}}
				got := impl.IsModule(s.hopf, m)
				if got != isModuleByHand(s.hopf, m) {
					t.Errorf("size %d for %d: %v is a module: %v", s.hopf.Size, s.hopf.Prime, m, got)
				}
				if got {
					count++
				}
			}
		}
		if count != s.want {
			t.Errorf("size %d for %d has %d modules of the Dim %d, not %d", s.hopf.Size, s.hopf.Prime, count, s.dim, s.want)
		}
	}
}

// TestActOn holds the action against the definition, and that products act as they should.
func TestActOn(t *testing.T) {
	t.Parallel()
	for _, s := range moduleSamples() {
		h, m := s.hopf, s.module
		source := rand.New(rand.NewSource(h.Size))
		for range 3 {
			a, b, v := randomVector(source, h.Prime, h.Size), randomVector(source, h.Prime, h.Size), randomVector(source, h.Prime, m.Dim)
			got, code := impl.ActOn(h, m, a, v)
			if got != actByHand(h.Prime, m, a, v) || code != impl.ErrNone {
				t.Errorf("%s: %v times %v is %v, %d", s.name, a, v, got, code)
			}
			second, _ := impl.ActOn(h, m, b, got)
			if product, code := impl.ActOn(h, m, productByHand(algebraPart(h), b, a), v); product != second || code != impl.ErrNone {
				t.Errorf("%s: %v times %v times %v is %v, %d, not %v", s.name, b, a, v, product, code, second)
			}
		}
		last := unitVector(m.Dim - 1)
		if got, code := impl.ActOn(h, m, h.Unit, last); got != last || code != impl.ErrNone {
			t.Errorf("%s: the Unit leads %v to %v, %d", s.name, last, got, code)
		}
		if got, code := impl.ActOn(h, m, unitVector(h.Size-1), last); got != m.Acts[h.Size-1][m.Dim-1] || code != impl.ErrNone {
			t.Errorf("%s: the last one leads %v to %v, %d", s.name, last, got, code)
		}
		if got, code := impl.ActOn(h, m, impl.Vector{}, last); got != (impl.Vector{}) || code != impl.ErrNone {
			t.Errorf("%s: 0 leads %v to %v, %d", s.name, last, got, code)
		}
	}
}

func TestTrivialModule(t *testing.T) {
	t.Parallel()
	for _, s := range moduleHopfs() {
		for _, dim := range []int64{1, 2, 7, impl.MaxSize} {
			got, code := impl.TrivialModule(s.hopf, dim)
			checkModule(t, fmt.Sprint(s.name, ", trivial ", dim), s.hopf, got, code, trivialByHand(s.hopf, dim))
		}
		for _, dim := range []int64{-1 << 63, -1, 0, impl.MaxSize + 1, 256, 257, 1 << 32, 1<<63 - 1} {
			if got, code := impl.TrivialModule(s.hopf, dim); got != (impl.Module{}) || code != impl.ErrRange {
				t.Errorf("%s, trivial %d: %v, %d", s.name, dim, got, code)
			}
		}
	}
}

func TestRegularModule(t *testing.T) {
	t.Parallel()
	for _, s := range moduleHopfs() {
		got, code := impl.RegularModule(s.hopf)
		checkModule(t, s.name+", regular", s.hopf, got, code, regularByHand(s.hopf))
	}
}

// fitsSum reports whether the sum of two Dims is at most MaxSize.
func fitsSum(m, k int64) bool { return m+k <= impl.MaxSize }

// fitsTensor reports whether the product of two Dims is at most MaxSize.
func fitsTensor(m, k int64) bool { return m*k <= impl.MaxSize }

// TestSumModule holds sums against the definition, and the part of promise 6 that characters of sums
// are sums.
func TestSumModule(t *testing.T) {
	t.Parallel()
	for _, pair := range modulePairs(fitsSum) {
		h, m, k := pair[0].hopf, pair[0].module, pair[1].module
		name := pair[0].name + " and " + pair[1].name
		sum, code := impl.SumModule(h, m, k)
		checkModule(t, name, h, sum, code, sumModuleByHand(m, k))
		first, _ := impl.CharacterOf(h, m)
		second, _ := impl.CharacterOf(h, k)
		if got, code := impl.CharacterOf(h, sum); got != sumByHand(h.Prime, first, 1, second) || code != impl.ErrNone {
			t.Errorf("%s: the character is %v, %d, and those of the parts %v and %v", name, got, code, first, second)
		}
	}
}

// TestTensorModule holds tensor products against the definition, the part of promise 6 that they are
// modules, and that their characters are products of those of the parts, for convolutions.
func TestTensorModule(t *testing.T) {
	t.Parallel()
	for _, pair := range modulePairs(fitsTensor) {
		h, m, k := pair[0].hopf, pair[0].module, pair[1].module
		name := pair[0].name + " with " + pair[1].name
		tensor, code := impl.TensorModule(h, m, k)
		checkModule(t, name, h, tensor, code, tensorModuleByHand(h, m, k))
		first, _ := impl.CharacterOf(h, m)
		second, _ := impl.CharacterOf(h, k)
		want := productByHand(algebraPart(dualHopfByHand(h)), first, second)
		if got, code := impl.CharacterOf(h, tensor); got != want || code != impl.ErrNone {
			t.Errorf("%s: the character is %v, %d, not %v", name, got, code, want)
		}
	}
}

// TestTensorModulesWithTheTrivialOne holds that these are the module, on both sides.
func TestTensorModulesWithTheTrivialOne(t *testing.T) {
	t.Parallel()
	for _, s := range moduleSamples() {
		one, _ := impl.TrivialModule(s.hopf, 1)
		got, code := impl.TensorModule(s.hopf, one, s.module)
		checkModule(t, s.name+", behind the trivial one", s.hopf, got, code, s.module)
		got, code = impl.TensorModule(s.hopf, s.module, one)
		checkModule(t, s.name+", ahead of the trivial one", s.hopf, got, code, s.module)
	}
}

// TestTensorModulesOfThree holds that tensor products are associative, and that a product with a sum
// on its left is the sum of the products.
func TestTensorModulesOfThree(t *testing.T) {
	t.Parallel()
	samples := smallModuleSamples()
	for _, pair := range smallPairs() {
		h, m, k := pair[0].hopf, pair[0].module, pair[1].module
		for _, u := range samples {
			l := u.module
			if u.hopf != h {
				continue
			}
			mk, mkCode := impl.TensorModule(h, m, k)
			kl, klCode := impl.TensorModule(h, k, l)
			left, leftCode := impl.TensorModule(h, mk, l)
			right, rightCode := impl.TensorModule(h, m, kl)
			if m.Dim*k.Dim*l.Dim <= impl.MaxSize && (left != right || mkCode+klCode+leftCode+rightCode != impl.ErrNone) {
				t.Errorf("%s, %s and %s: %v and %v", pair[0].name, pair[1].name, u.name, left, right)
			}
			if (m.Dim+k.Dim)*l.Dim > impl.MaxSize || m.Dim*l.Dim > impl.MaxSize {
				continue
			}
			sum, _ := impl.SumModule(h, m, k)
			whole, code := impl.TensorModule(h, sum, l)
			ml, _ := impl.TensorModule(h, m, l)
			parts, partsCode := impl.SumModule(h, ml, kl)
			if whole != parts || code != impl.ErrNone || partsCode != impl.ErrNone {
				t.Errorf("%s and %s with %s: %v and %v", pair[0].name, pair[1].name, u.name, whole, parts)
			}
		}
	}
}

// TestLimitsOfSumsAndTensorProducts goes through all pairs of Dims, those with the sum or product 8,
// which is MaxSize, and 9, which exceeds it by one, among them.
func TestLimitsOfSumsAndTensorProducts(t *testing.T) {
	t.Parallel()
	for _, h := range []impl.Hopf{groupHopf(cyclic(31, 8)), skewHopf(3, 2, 0), groupHopf(cyclic(2, 1))} {
		for n := int64(1); n <= impl.MaxSize; n++ {
			for m := int64(1); m <= impl.MaxSize; m++ {
				first, second := slantedModule(h, trivialByHand(h, n)), trivialByHand(h, m)
				var sum, tensor impl.Module
				sumCode, tensorCode := int64(impl.ErrLimit), int64(impl.ErrLimit)
				if n+m <= 8 {
					sum, sumCode = trivialByHand(h, n+m), impl.ErrNone
				}
				if n*m <= 8 {
					tensor, tensorCode = trivialByHand(h, n*m), impl.ErrNone
				}
				if got, code := impl.SumModule(h, first, second); got != sum || code != sumCode {
					t.Errorf("the sum of the Dims %d and %d: %v, %d, not %d", n, m, got, code, sumCode)
				}
				if got, code := impl.TensorModule(h, first, second); got != tensor || code != tensorCode {
					t.Errorf("the product of the Dims %d and %d: %v, %d, not %d", n, m, got, code, tensorCode)
				}
			}
		}
	}
}

// TestDualModule holds duals against the definition, and that e(i), applied to a function and then
// evaluated, is the function for what S(e(i)) leads to.
func TestDualModule(t *testing.T) {
	t.Parallel()
	for _, s := range moduleSamples() {
		h, m := s.hopf, s.module
		dual, code := impl.DualModule(h, m)
		checkModule(t, "the dual of "+s.name, h, dual, code, dualModuleByHand(h, m))
		source := rand.New(rand.NewSource(h.Prime))
		a, f, v := randomVector(source, h.Prime, h.Size), randomVector(source, h.Prime, m.Dim), randomVector(source, h.Prime, m.Dim)
		moved, _ := impl.ActOn(h, dual, a, f)
		turned, _ := impl.AntipodeOf(h, a)
		back, _ := impl.ActOn(h, m, turned, v)
		value := func(form, w impl.Vector) int64 {
			return counitByHand(impl.Coalgebra{Prime: h.Prime, Counit: form}, w)
		}
		if value(moved, v) != value(f, back) {
			t.Errorf("the dual of %s: %v times %v is %v, with the value %d for %v", s.name, a, f, moved, value(moved, v), v)
		}
	}
}

// invariantsCount returns the dimension of the invariants: the Dim less the rank of all linear
// functions that tell an entry of e(i) v less the Counit of e(i) times v.
func invariantsCount(h impl.Hopf, m impl.Module) int64 {
	var functions []impl.Vector
	for i := range h.Size {
		for k := range m.Dim {
			var f impl.Vector
			for j := range m.Dim {
				f[j] = m.Acts[i][j][k]
			}
			functions = append(functions, sumByHand(h.Prime, f, h.Prime-int64(h.Counit[i]), unitVector(k)))
		}
	}
	return m.Dim - int64(len(reducedByHand(h, m, functions)))
}

// isInvariantByHand reports whether v is an invariant, straight from the definition.
func isInvariantByHand(h impl.Hopf, m impl.Module, v impl.Vector) bool {
	for i := range h.Size {
		if actByHand(h.Prime, m, unitVector(i), v) != timesByHand(h.Prime, int64(h.Counit[i]), v) {
			return false
		}
	}
	return true
}

// TestInvariantsOf holds invariants against the definition. Where there are few vectors, all are gone
// through; the left integral spans the invariants of the regular module.
func TestInvariantsOf(t *testing.T) {
	t.Parallel()
	counts := map[int]int{}
	for _, s := range moduleSamples() {
		h, m := s.hopf, s.module
		list, code := impl.InvariantsOf(h, m)
		counts[len(list)]++
		if code != impl.ErrNone || !isReducedByHand(list) || int64(len(list)) != invariantsCount(h, m) {
			t.Errorf("%s: the invariants are %v, %d", s.name, list, code)
		}
		for _, v := range list {
			if !isInvariantByHand(h, m, v) || !impl.IsVector(h.Prime, m.Dim, v) {
				t.Errorf("%s: %v is no invariant", s.name, v)
			}
		}
		if all := allVectors(h.Prime, m.Dim); len(all) > 0 {
			span := spanByHand(h.Prime, list)
			for _, v := range all {
				if span[v] != isInvariantByHand(h, m, v) {
					t.Errorf("%s: %v is an invariant by hand: %v", s.name, v, !span[v])
				}
			}
		}
		if m == regularByHand(h) {
			if integral, _ := impl.LeftIntegral(h); !slices.Equal(list, []impl.Vector{integral}) {
				t.Errorf("%s: the invariants are %v, and the left integral is %v", s.name, list, integral)
			}
		}
	}
	if counts[0] == 0 || counts[1] == 0 || counts[2] == 0 || counts[impl.MaxSize] == 0 {
		t.Errorf("the counts of vectors are %v", counts)
	}
}

// characterByHand returns the character straight from the definition.
func characterByHand(h impl.Hopf, m impl.Module) impl.Vector {
	var character impl.Vector
	for i := range h.Size {
		sum := int64(0)
		for j := range m.Dim {
			sum += int64(m.Acts[i][j][j])
		}
		character[i] = byte(sum % h.Prime)
	}
	return character
}

// TestCharacterOf holds characters against the definition, and that they do not depend on the basis.
func TestCharacterOf(t *testing.T) {
	t.Parallel()
	for _, s := range moduleSamples() {
		want := characterByHand(s.hopf, s.module)
		if got, code := impl.CharacterOf(s.hopf, s.module); got != want || code != impl.ErrNone {
			t.Errorf("%s: the character is %v, %d, not %v", s.name, got, code, want)
		}
		if got, code := impl.CharacterOf(s.hopf, slantedModule(s.hopf, s.module)); got != want || code != impl.ErrNone {
			t.Errorf("%s, slanted: the character is %v, %d, not %v", s.name, got, code, want)
		}
	}
}

// vectorsOfModule returns vectors of a module, those of which few are led to others among them.
func vectorsOfModule(s moduleSample) []impl.Vector {
	source := rand.New(rand.NewSource(s.hopf.Prime + s.module.Dim))
	list := []impl.Vector{{}, unitVector(0), unitVector(s.module.Dim - 1), randomVector(source, s.hopf.Prime, s.module.Dim)}
	integral, _ := impl.LeftIntegral(s.hopf)
	return append(list, actByHand(s.hopf.Prime, s.module, integral, list[3]))
}

// TestSubmoduleOf holds that the submodule of v has v and is led into itself, and that it is spanned
// by what v is led to, so that it is the least one.
func TestSubmoduleOf(t *testing.T) {
	t.Parallel()
	proper := 0
	for _, s := range moduleSamples() {
		h, m := s.hopf, s.module
		for _, v := range vectorsOfModule(s) {
			list, code := impl.SubmoduleOf(h, m, v)
			images := imagesOfVectors(h, m, v)
			if code != impl.ErrNone || !isReducedByHand(list) || !slices.Equal(list, reducedByHand(h, m, images)) {
				t.Errorf("%s: the submodule of %v is %v, %d", s.name, v, list, code)
			}
			if !isClosedByHand(h, m, list) || !slices.Equal(list, reducedByHand(h, m, append(images, v))) {
				t.Errorf("%s: %v is no submodule of %v", s.name, list, v)
			}
			if yes, code := impl.IsSubmodule(h, m, list); !yes || code != impl.ErrNone {
				t.Errorf("%s: %v is a submodule: %v, %d", s.name, list, yes, code)
			}
			if len(list) > 0 && int64(len(list)) < m.Dim {
				proper++
			}
		}
		if list, code := impl.SubmoduleOf(h, m, impl.Vector{}); len(list) != 0 || code != impl.ErrNone {
			t.Errorf("%s: the submodule of 0 is %v, %d", s.name, list, code)
		}
	}
	if proper < 100 {
		t.Errorf("only %d submodules are neither 0 nor all", proper)
	}
}

// isSubmoduleByHand reports whether the e(i) lead the span of a list into itself.
func isSubmoduleByHand(h impl.Hopf, m impl.Module, list []impl.Vector) bool {
	span := spanByHand(h.Prime, list)
	for _, v := range imagesOfVectors(h, m, list...) {
		if !span[v] {
			return false
		}
	}
	return true
}

// TestIsSubmoduleOfAllSmall goes through all lists of two vectors of small modules, and holds that the
// submodule of a vector is in all submodules that have it.
func TestIsSubmoduleOfAllSmall(t *testing.T) {
	t.Parallel()
	seen := map[bool]int{}
	for _, s := range smallModuleSamples() {
		h, m := s.hopf, s.module
		all := allVectors(h.Prime, m.Dim)
		for _, v := range all {
			least, _ := impl.SubmoduleOf(h, m, v)
			for _, w := range all {
				list := []impl.Vector{v, w}
				want := isSubmoduleByHand(h, m, list)
				seen[want]++
				for _, other := range [][]impl.Vector{list, {w, {}, v, w, v}} {
					if got, code := impl.IsSubmodule(h, m, other); got != want || code != impl.ErrNone {
						t.Errorf("%s: the space of %v is a submodule: %v, %d", s.name, other, got, code)
					}
				}
				if span := spanByHand(h.Prime, list); want && slices.ContainsFunc(least, func(x impl.Vector) bool { return !span[x] }) {
					t.Errorf("%s: the submodule of %v is %v, but that of %v is another one", s.name, v, least, list)
				}
			}
		}
	}
	if seen[true] == 0 || seen[false] == 0 {
		t.Errorf("submodules and others: %v", seen)
	}
}

// disguised returns a list that spans the same as a reduced list, but that is not reduced, has a
// vector of zeros and the same vector twice.
func disguised(p int64, list []impl.Vector) []impl.Vector {
	other := []impl.Vector{{}}
	var sum impl.Vector
	for _, v := range list {
		sum = sumByHand(p, sum, p-1, v)
		other = append(other, sum, sum)
	}
	slices.Reverse(other)
	return other
}

// listsOfModule returns lists of vectors of a module: submodules, told by their reduced lists and by
// others, those of 0 and of all among them, and what need not be a submodule.
func listsOfModule(s moduleSample) [][]impl.Vector {
	h, m := s.hopf, s.module
	whole := basisByHand(m.Dim)
	vectors := vectorsOfModule(s)
	lists := [][]impl.Vector{disguised(h.Prime, whole), whole[1:], whole[:m.Dim-1], {vectors[3], vectors[3]}}
	found := map[string]bool{}
	for _, v := range vectors {
		sub := reducedByHand(h, m, imagesOfVectors(h, m, v))
		if key := fmt.Sprint(sub); !found[key] {
			found[key] = true
			lists = append(lists, sub, disguised(h.Prime, sub))
		}
	}
	return lists
}

func TestIsSubmodule(t *testing.T) {
	t.Parallel()
	seen := map[bool]int{}
	for _, s := range moduleSamples() {
		h, m := s.hopf, s.module
		for _, list := range [][]impl.Vector{nil, {{}, {}}, basisByHand(m.Dim)} {
			if got, code := impl.IsSubmodule(h, m, list); !got || code != impl.ErrNone {
				t.Errorf("%s: the space of %v is a submodule: %v, %d", s.name, list, got, code)
			}
		}
		for _, list := range listsOfModule(s) {
			want := isClosedByHand(h, m, list)
			if got, code := impl.IsSubmodule(h, m, list); got != want || code != impl.ErrNone {
				t.Errorf("%s: the space of %v is a submodule: %v, %d", s.name, list, got, code)
			}
			seen[want]++
		}
	}
	if seen[true] == 0 || seen[false] == 0 {
		t.Errorf("submodules and others: %v", seen)
	}
}

// checkQuotient holds a quotient against the definition: it is a module (promise 6), the basis elements
// that are left are led to its basis and the submodule to 0 by a module map, and its character and
// that of the submodule are together that of the module.
func checkQuotient(t *testing.T, s moduleSample, list []impl.Vector) {
	t.Helper()
	h, m := s.hopf, s.module
	reduced := reducedByHand(h, m, list)
	got, code := impl.QuotientModule(h, m, list)
	if !isClosedByHand(h, m, list) || int64(len(reduced)) == m.Dim {
		if got != (impl.Module{}) || code != impl.ErrState {
			t.Errorf("%s: the quotient by %v is %v, %d", s.name, list, got, code)
		}
		return
	}
	checkModule(t, fmt.Sprint(s.name, " by ", list), h, got, code, quotientByHand(h, m, reduced))
	f := projectionByHand(h.Prime, m.Dim, reduced)
	if yes, code := impl.IsModuleMap(h, m, got, f); !yes || code != impl.ErrNone {
		t.Errorf("%s by %v: %v is a module map: %v, %d", s.name, list, f, yes, code)
	}
	for _, v := range list {
		if w := imageByHand(h.Prime, f, v); w != (impl.Vector{}) {
			t.Errorf("%s by %v: %v is led to %v", s.name, list, v, w)
		}
	}
	character := characterByHand(h, got)
	if len(reduced) > 0 {
		character = sumByHand(h.Prime, character, 1, characterByHand(h, submoduleByHand(h, m, reduced)))
	}
	if want := characterByHand(h, m); character != want {
		t.Errorf("%s by %v: the characters are together %v, not %v", s.name, list, character, want)
	}
}

func TestQuotientModule(t *testing.T) {
	t.Parallel()
	for _, s := range moduleSamples() {
		h, m := s.hopf, s.module
		whole := basisByHand(m.Dim)
		for _, list := range listsOfModule(s) {
			checkQuotient(t, s, list)
		}
		for _, list := range [][]impl.Vector{nil, {{}, {}}} {
			if got, code := impl.QuotientModule(h, m, list); got != m || code != impl.ErrNone {
				t.Errorf("%s by 0: %v, %d", s.name, got, code)
			}
		}
		if got, code := impl.QuotientModule(h, m, whole); got != (impl.Module{}) || code != impl.ErrState {
			t.Errorf("%s by all: %v, %d", s.name, got, code)
		}
	}
}

// isModuleMapByHand reports whether f is a module map, straight from the definition.
func isModuleMapByHand(h impl.Hopf, m, k impl.Module, f impl.Linear) bool {
	for i := range h.Size {
		for j := range m.Dim {
			if imageByHand(h.Prime, f, m.Acts[i][j]) != actByHand(h.Prime, k, unitVector(i), f[j]) {
				return false
			}
		}
	}
	return true
}

// TestModuleMapsOfAllSmall goes through all linear maps between small modules, and holds the dimension
// of the space of module maps against how many there are.
func TestModuleMapsOfAllSmall(t *testing.T) {
	t.Parallel()
	seen := map[bool]int{}
	for _, pair := range smallPairs() {
		h, m, k := pair[0].hopf, pair[0].module, pair[1].module
		if m.Dim*k.Dim > 8 || power(h.Prime, m.Dim*k.Dim) > 512 {
			continue
		}
		name := pair[0].name + " to " + pair[1].name
		count := int64(0)
		for _, f := range allLinear(h.Prime, m.Dim, k.Dim) {
			want := isModuleMapByHand(h, m, k, f)
			if got, code := impl.IsModuleMap(h, m, k, f); got != want || code != impl.ErrNone {
				t.Errorf("%s, %v: %v, %d", name, f, got, code)
			}
			if want {
				count++
			}
			seen[want]++
		}
		if dim, code := impl.DimensionOfMaps(h, m, k); power(h.Prime, max(dim, 0)) != count || code != impl.ErrNone {
			t.Errorf("%s: there are %d module maps, and their dimension is %d, %d", name, count, dim, code)
		}
	}
	if seen[true] == 0 || seen[false] == 0 {
		t.Errorf("module maps and others: %v", seen)
	}
}

// TestMapsFromTheTrivialModule holds promise 14: maps from the trivial module of 1 are the invariants,
// so that there are m times as many from that of m.
func TestMapsFromTheTrivialModule(t *testing.T) {
	t.Parallel()
	seen := map[bool]int{}
	for _, s := range moduleSamples() {
		h, m := s.hopf, s.module
		invariants, _ := impl.InvariantsOf(h, m)
		for _, dim := range []int64{1, 3} {
			trivial, _ := impl.TrivialModule(h, dim)
			want := dim * int64(len(invariants))
			if got, code := impl.DimensionOfMaps(h, trivial, m); got != want || code != impl.ErrNone {
				t.Errorf("%s: the dimension of maps from the trivial module of %d is %d, %d, not %d", s.name, dim, got, code, want)
			}
		}
		one, _ := impl.TrivialModule(h, 1)
		for _, v := range append(vectorsOfModule(s), invariants...) {
			want := isInvariantByHand(h, m, v)
			if got, code := impl.IsModuleMap(h, one, m, impl.Linear{v}); got != want || code != impl.ErrNone {
				t.Errorf("%s: to %v is a module map: %v, %d", s.name, v, got, code)
			}
			seen[want]++
		}
	}
	if seen[true] == 0 || seen[false] == 0 {
		t.Errorf("invariants and others: %v", seen)
	}
}

// TestMapsFromTheRegularModule holds that these are told by the image of the Unit, which may be any
// vector, and that maps between duals are as many as those the other way round.
func TestMapsFromTheRegularModule(t *testing.T) {
	t.Parallel()
	for _, s := range moduleSamples() {
		h, m := s.hopf, s.module
		regular, _ := impl.RegularModule(h)
		if got, code := impl.DimensionOfMaps(h, regular, m); got != m.Dim || code != impl.ErrNone {
			t.Errorf("%s: the dimension of maps from the regular module is %d, %d", s.name, got, code)
		}
		for _, v := range vectorsOfModule(s)[2:4] {
			var f impl.Linear
			for i := range h.Size {
				f[i] = actByHand(h.Prime, m, unitVector(i), v)
			}
			if yes, code := impl.IsModuleMap(h, regular, m, f); !yes || code != impl.ErrNone {
				t.Errorf("%s: the Unit to %v is a module map: %v, %d", s.name, v, yes, code)
			}
			f[h.Size-1] = sumByHand(h.Prime, f[h.Size-1], 1, unitVector(m.Dim-1))
			if yes, code := impl.IsModuleMap(h, regular, m, f); yes != isModuleMapByHand(h, regular, m, f) || code != impl.ErrNone {
				t.Errorf("%s: %v is a module map: %v, %d", s.name, f, yes, code)
			}
		}
		dual, _ := impl.DualModule(h, m)
		one := trivialByHand(h, 1)
		there, code1 := impl.DimensionOfMaps(h, one, dual)
		back, code2 := impl.DimensionOfMaps(h, m, one)
		if there != back || code1 != impl.ErrNone || code2 != impl.ErrNone {
			t.Errorf("%s: the dimensions of maps to the trivial module are %d, %d, and by duals %d, %d", s.name, back, code2, there, code1)
		}
	}
}

// TestMapsBetweenSamples holds that the module maps of a sum are those between its parts, among them
// the one into the sum and the one onto its first part.
func TestMapsBetweenSamples(t *testing.T) {
	t.Parallel()
	seen := map[bool]int{}
	for _, pair := range modulePairs(fitsSum) {
		h, m, k := pair[0].hopf, pair[0].module, pair[1].module
		name, sum := pair[0].name+" and "+pair[1].name, sumModuleByHand(m, k)
		var parts int64
		for _, c := range [][2]impl.Module{{m, m}, {m, k}, {k, m}, {k, k}} {
			dim, code := impl.DimensionOfMaps(h, c[0], c[1])
			if code != impl.ErrNone {
				t.Errorf("%s: the code is %d", name, code)
			}
			parts += dim
		}
		if got, code := impl.DimensionOfMaps(h, sum, sum); got != parts || code != impl.ErrNone {
			t.Errorf("%s: the dimension for the sum is %d, %d, and for the parts %d", name, got, code, parts)
		}
		identity := identityByHand(m.Dim)
		if yes, code := impl.IsModuleMap(h, m, sum, identity); !yes || code != impl.ErrNone {
			t.Errorf("%s: into the sum is a module map: %v, %d", name, yes, code)
		}
		if yes, code := impl.IsModuleMap(h, sum, m, identity); !yes || code != impl.ErrNone {
			t.Errorf("%s: onto the first part is a module map: %v, %d", name, yes, code)
		}
		other := identity
		other[m.Dim+k.Dim-1] = unitVector(m.Dim - 1)
		want := isModuleMapByHand(h, sum, m, other)
		if yes, code := impl.IsModuleMap(h, sum, m, other); yes != want || code != impl.ErrNone {
			t.Errorf("%s: %v is a module map: %v, %d", name, other, yes, code)
		}
		seen[want]++
	}
	if seen[true] == 0 || seen[false] == 0 {
		t.Errorf("module maps and others: %v", seen)
	}
}

// skewModule returns the module of Sweedler's Hopf algebra with g v(0) = v(0), g v(1) = - v(1) and
// x v(0) = v(1).
func skewModule(p int64) impl.Module {
	minus := byte(p - 1)
	return impl.Module{Dim: 2, Acts: [8]impl.Linear{{{1}, {0, 1}}, {{1}, {0, minus}}, {{0, 1}}, {{0, minus}}}}
}

// TestModulesMadeOfChosenOnes holds modules against those that were found without the program.
func TestModulesMadeOfChosenOnes(t *testing.T) {
	w, m := sweedlerTables(31), skewModule(31)
	six, points := groupHopf(dihedral(31, 3)), permutationModule(3)
	// The functions on the group of 3 elements, with v(0) of the degree 1 and v(1) of the degree 2.
	f, graded := dualHopfByHand(groupHopf(cyclic(5, 3))), impl.Module{Dim: 2, Acts: [8]impl.Linear{1: {{1}}, 2: {1: {0, 1}}}}
	module := func(dim int64, acts ...impl.Linear) impl.Module {
		made := impl.Module{Dim: dim}
		copy(made.Acts[:], acts)
		return made
	}
	for _, c := range []struct {
		name string
		h    impl.Hopf
		call func() (impl.Module, int64)
		want impl.Module
	}{
		{"trivial 2", w, func() (impl.Module, int64) { return impl.TrivialModule(w, 2) },
			module(2, impl.Linear{{1}, {0, 1}}, impl.Linear{{1}, {0, 1}})},
		{"regular", w, func() (impl.Module, int64) { return impl.RegularModule(w) },
			module(4, identityByHand(4), impl.Linear{{0, 1}, {1}, {0, 0, 0, 1}, {0, 0, 1}},
				impl.Linear{{0, 0, 1}, {0, 0, 0, 30}}, impl.Linear{{0, 0, 0, 1}, {0, 0, 30}})},
		{"a sum", w, func() (impl.Module, int64) { return impl.SumModule(w, trivialByHand(w, 1), m) },
			module(3, identityByHand(3), impl.Linear{{1}, {0, 1}, {0, 0, 30}}, impl.Linear{1: {0, 0, 1}}, impl.Linear{1: {0, 0, 30}})},
		{"a tensor product", w, func() (impl.Module, int64) { return impl.TensorModule(w, m, m) },
			module(4, identityByHand(4), impl.Linear{{1}, {0, 30}, {0, 0, 30}, {0, 0, 0, 1}},
				impl.Linear{{0, 1, 1}, {0, 0, 0, 1}, {0, 0, 0, 30}}, impl.Linear{{0, 30, 30}, {0, 0, 0, 1}, {0, 0, 0, 30}})},
		{"a dual", w, func() (impl.Module, int64) { return impl.DualModule(w, m) },
			module(2, identityByHand(2), impl.Linear{{1}, {0, 30}}, impl.Linear{1: {1}}, impl.Linear{1: {1}})},
		{"a quotient of Dim 1", w, func() (impl.Module, int64) { return impl.QuotientModule(w, m, []impl.Vector{{0, 7}}) },
			module(1, impl.Linear{{1}}, impl.Linear{{1}})},
		{"points but for the sum of all", six, func() (impl.Module, int64) { return impl.QuotientModule(six, points, []impl.Vector{{2, 2, 2}}) },
			module(2, identityByHand(2), impl.Linear{{0, 1}, {30, 30}}, impl.Linear{{30, 30}, {1}},
				impl.Linear{{0, 1}, {1}}, impl.Linear{{30, 30}, {0, 1}}, impl.Linear{{1}, {30, 30}})},
		{"degrees of a tensor product", f, func() (impl.Module, int64) { return impl.TensorModule(f, graded, graded) },
			module(4, impl.Linear{1: {0, 1}, 2: {0, 0, 1}}, impl.Linear{3: {0, 0, 0, 1}}, impl.Linear{{1}})},
		{"degrees of a dual", f, func() (impl.Module, int64) { return impl.DualModule(f, graded) },
			module(2, impl.Linear{}, impl.Linear{1: {0, 1}}, impl.Linear{{1}})},
	} {
		got, code := c.call()
		checkModule(t, c.name, c.h, got, code, c.want)
	}
}

// TestModulesChosen holds what is told of modules against what was found without the program.
func TestModulesChosen(t *testing.T) {
	w, m := sweedlerTables(31), skewModule(31)
	dual, _ := impl.DualModule(w, m)
	six, points := groupHopf(dihedral(31, 3)), permutationModule(3)
	six3 := groupHopf(dihedral(3, 3))
	eight := groupHopf(cyclic(2, 8))
	regular8 := regularByHand(eight)
	whole := basisByHand(8)
	for _, c := range []struct {
		name       string
		h          impl.Hopf
		m          impl.Module
		invariants []impl.Vector
		character  impl.Vector
		v          impl.Vector
		submodule  []impl.Vector
		maps       int64
	}{
		{"of Sweedler's", w, m, nil, impl.Vector{2}, impl.Vector{0, 9}, []impl.Vector{{0, 1}}, 1},
		{"of Sweedler's, all", w, m, nil, impl.Vector{2}, impl.Vector{9, 9}, whole[:2], 1},
		{"of Sweedler's, the dual", w, dual, []impl.Vector{{1}}, impl.Vector{2}, impl.Vector{5}, []impl.Vector{{1}}, 1},
		{"of Sweedler's, the dual, all", w, dual, []impl.Vector{{1}}, impl.Vector{2}, impl.Vector{0, 5}, whole[:2], 1},
		{"points for 31", six, points, []impl.Vector{{1, 1, 1}}, impl.Vector{3, 0, 0, 1, 1, 1}, impl.Vector{1, 30}, []impl.Vector{{1, 0, 30}, {0, 1, 30}}, 2},
		{"points for 3", six3, points, []impl.Vector{{1, 1, 1}}, impl.Vector{0, 0, 0, 1, 1, 1}, impl.Vector{1, 2}, []impl.Vector{{1, 0, 2}, {0, 1, 2}}, 2},
		{"points for 3, the sum", six3, points, []impl.Vector{{1, 1, 1}}, impl.Vector{0, 0, 0, 1, 1, 1}, impl.Vector{2, 2, 2}, []impl.Vector{{1, 1, 1}}, 2},
		{"regular of cyclic 8 for 2", eight, regular8, []impl.Vector{{1, 1, 1, 1, 1, 1, 1, 1}}, impl.Vector{},
			impl.Vector{0: 1, 4: 1}, []impl.Vector{{0: 1, 4: 1}, {1: 1, 5: 1}, {2: 1, 6: 1}, {3: 1, 7: 1}}, 8},
		{"trivial 8 of cyclic 8 for 2", eight, trivialByHand(eight, 8), whole, impl.Vector{}, impl.Vector{7: 1}, whole[7:], 64},
		{"trivial 1 of size 1 for 2", groupHopf(cyclic(2, 1)), impl.Module{Dim: 1, Acts: [8]impl.Linear{{{1}}}}, whole[:1], impl.Vector{1}, impl.Vector{1}, whole[:1], 1},
	} {
		if got, code := impl.InvariantsOf(c.h, c.m); !slices.Equal(got, c.invariants) || code != impl.ErrNone {
			t.Errorf("%s: the invariants are %v, %d, not %v", c.name, got, code, c.invariants)
		}
		if got, code := impl.CharacterOf(c.h, c.m); got != c.character || code != impl.ErrNone {
			t.Errorf("%s: the character is %v, %d, not %v", c.name, got, code, c.character)
		}
		if got, code := impl.SubmoduleOf(c.h, c.m, c.v); !slices.Equal(got, c.submodule) || code != impl.ErrNone {
			t.Errorf("%s: the submodule of %v is %v, %d, not %v", c.name, c.v, got, code, c.submodule)
		}
		if got, code := impl.DimensionOfMaps(c.h, c.m, c.m); got != c.maps || code != impl.ErrNone {
			t.Errorf("%s: the dimension of maps is %d, %d, not %d", c.name, got, code, c.maps)
		}
	}
}

// TestMapsChosen holds maps between two modules of Sweedler's Hopf algebra that are duals of each
// other, and not the same.
func TestMapsChosen(t *testing.T) {
	w, m := sweedlerTables(31), skewModule(31)
	dual, _ := impl.DualModule(w, m)
	for _, c := range []struct {
		name string
		m, k impl.Module
		f    impl.Linear
		want bool
	}{
		{"0", m, dual, impl.Linear{}, true},
		{"a number", m, m, impl.Linear{{30}, {0, 30}}, true},
		{"two numbers", m, m, impl.Linear{{30}, {0, 1}}, false},
		{"v(0) to f(0)", m, dual, impl.Linear{{3}}, true},
		{"v(1) to f(1)", m, dual, impl.Linear{1: {0, 3}}, false},
		{"f(1) to v(1)", dual, m, impl.Linear{1: {0, 3}}, true},
		{"f(0) to v(0)", dual, m, impl.Linear{{3}}, false},
		{"the identity", m, dual, identityByHand(2), false},
	} {
		if got, code := impl.IsModuleMap(w, c.m, c.k, c.f); got != c.want || code != impl.ErrNone {
			t.Errorf("%s: %v, %d", c.name, got, code)
		}
		if dim, code := impl.DimensionOfMaps(w, c.m, c.k); dim != 1 || code != impl.ErrNone {
			t.Errorf("%s: the dimension of maps is %d, %d", c.name, dim, code)
		}
	}
}

// checkInvalidModule calls all functions of a module with one that is none, or that is one of what is
// no Hopf algebra. The other module is one of the same, and the sums and tensor products of some are
// too great, which is behind what is invalid.
func checkInvalidModule(t *testing.T, name string, h impl.Hopf, m, other impl.Module) {
	t.Helper()
	check := func(function string, zero bool, code int64) {
		t.Helper()
		if !zero || code != impl.ErrInvalid {
			t.Errorf("%s: %s returns the code %d, its results are zero values: %v", name, function, code, zero)
		}
	}
	if impl.IsModule(h, m) {
		t.Errorf("%s: IsModule is true", name)
	}
	dual, code := impl.DualModule(h, m)
	check("DualModule", dual == impl.Module{}, code)
	list, code := impl.InvariantsOf(h, m)
	check("InvariantsOf", len(list) == 0, code)
	character, code := impl.CharacterOf(h, m)
	check("CharacterOf", character == impl.Vector{}, code)
	for _, v := range []impl.Vector{{}, {1}} {
		image, code := impl.ActOn(h, m, v, v)
		check("ActOn", image == impl.Vector{}, code)
		list, code = impl.SubmoduleOf(h, m, v)
		check("SubmoduleOf", len(list) == 0, code)
	}
	for _, list := range [][]impl.Vector{nil, {{}}, {{1}}, basisByHand(max(1, min(m.Dim, 8)))} {
		yes, code := impl.IsSubmodule(h, m, list)
		check("IsSubmodule", !yes, code)
		quotient, code := impl.QuotientModule(h, m, list)
		check("QuotientModule", quotient == impl.Module{}, code)
	}
	for _, pair := range [][2]impl.Module{{m, other}, {other, m}, {m, m}} {
		sum, code := impl.SumModule(h, pair[0], pair[1])
		check("SumModule", sum == impl.Module{}, code)
		tensor, code := impl.TensorModule(h, pair[0], pair[1])
		check("TensorModule", tensor == impl.Module{}, code)
		yes, code := impl.IsModuleMap(h, pair[0], pair[1], impl.Linear{})
		check("IsModuleMap", !yes, code)
		dim, code := impl.DimensionOfMaps(h, pair[0], pair[1])
		check("DimensionOfMaps", dim == 0, code)
	}
}

// TestInvalidHopfOfModules has tables that are no Hopf algebras, for each axiom that can fail first,
// with what would be a module of most.
func TestInvalidHopfOfModules(t *testing.T) {
	for _, b := range append(brokenShapes(), brokenAxioms()...) {
		one := impl.Module{Dim: 1}
		for i, x := range b.hopf.Counit {
			one.Acts[i][0][0] = x
		}
		checkInvalidModule(t, b.name+", regular", b.hopf, regularByHand(b.hopf), one)
		checkInvalidModule(t, b.name+", trivial", b.hopf, one, one)
		checkInvalidModule(t, b.name+", zero value", b.hopf, impl.Module{}, one)
		if m, code := impl.RegularModule(b.hopf); m != (impl.Module{}) || code != impl.ErrInvalid {
			t.Errorf("%s: RegularModule returns %v, %d", b.name, m, code)
		}
		for _, dim := range []int64{1, 8, 0, 9, -1} {
			if m, code := impl.TrivialModule(b.hopf, dim); m != (impl.Module{}) || code != impl.ErrInvalid {
				t.Errorf("%s: TrivialModule of %d returns %v, %d", b.name, dim, m, code)
			}
		}
	}
}

func TestInvalidModules(t *testing.T) {
	for _, b := range brokenModules() {
		checkInvalidModule(t, b.name, b.hopf, b.module, trivialByHand(b.hopf, 1))
		checkInvalidModule(t, b.name+", too great", b.hopf, b.module, trivialByHand(b.hopf, 8))
	}
}

// TestInvalidVectorsOfModules has vectors that are none; some of them would be vectors if the Dim and
// the Size were exchanged. Lists with one of them are not looked at any further.
func TestInvalidVectorsOfModules(t *testing.T) {
	w, six := sweedlerTables(3), groupHopf(dihedral(31, 3))
	for _, c := range []struct {
		name string
		h    impl.Hopf
		m    impl.Module
		v    impl.Vector
	}{
		{"3", w, skewModule(3), impl.Vector{3}},
		{"4 for 1", w, skewModule(3), impl.Vector{0, 4}},
		{"255", w, skewModule(3), impl.Vector{0, 255}},
		{"an entry behind the Dim", w, skewModule(3), impl.Vector{0, 1, 1}},
		{"an entry at the end", w, skewModule(3), impl.Vector{7: 1}},
		{"an entry behind the Dim 3", six, permutationModule(3), impl.Vector{1, 1, 1, 1}},
		{"31", six, permutationModule(3), impl.Vector{0, 0, 31}},
		{"an entry behind the Dim 1", six, trivialByHand(six, 1), impl.Vector{0, 1}},
		{"31 at the end of the Dim 8", six, trivialByHand(six, 8), impl.Vector{7: 31}},
	} {
		if got, code := impl.ActOn(c.h, c.m, c.h.Unit, c.v); got != (impl.Vector{}) || code != impl.ErrInvalid {
			t.Errorf("%s: ActOn returns %v, %d", c.name, got, code)
		}
		if got, code := impl.SubmoduleOf(c.h, c.m, c.v); len(got) != 0 || code != impl.ErrInvalid {
			t.Errorf("%s: SubmoduleOf returns %v, %d", c.name, got, code)
		}
		for _, list := range [][]impl.Vector{{c.v}, {{1}, c.v}, {c.v, {}}, append(basisByHand(c.m.Dim), c.v)} {
			if got, code := impl.IsSubmodule(c.h, c.m, list); got || code != impl.ErrInvalid {
				t.Errorf("%s: IsSubmodule of %v returns %v, %d", c.name, list, got, code)
			}
			if got, code := impl.QuotientModule(c.h, c.m, list); got != (impl.Module{}) || code != impl.ErrInvalid {
				t.Errorf("%s: QuotientModule of %v returns %v, %d", c.name, list, got, code)
			}
		}
	}
	for _, a := range []impl.Vector{{3}, {4}, {0, 0, 0, 255}, {0, 0, 0, 0, 1}, {7: 1}} {
		for _, m := range []impl.Module{skewModule(3), trivialByHand(w, 8)} {
			if got, code := impl.ActOn(w, m, a, impl.Vector{1}); got != (impl.Vector{}) || code != impl.ErrInvalid {
				t.Errorf("ActOn of %v returns %v, %d", a, got, code)
			}
		}
	}
}

func TestErrorsOfIsModuleMap(t *testing.T) {
	six := groupHopf(dihedral(5, 3))
	two, three := trivialByHand(six, 2), permutationModule(3)
	for _, c := range []struct {
		name string
		m, k impl.Module
		f    impl.Linear
		code int64
	}{
		{"all entries", two, three, impl.Linear{{4, 4, 4}, {4, 4, 4}}, impl.ErrNone},
		{"all entries the other way round", three, two, impl.Linear{{4, 4}, {4, 4}, {4, 4}}, impl.ErrNone},
		{"an entry 5", two, three, impl.Linear{{1}, {0, 0, 5}}, impl.ErrInvalid},
		{"an entry 6 for 1", two, three, impl.Linear{{6, 6, 6}}, impl.ErrInvalid},
		{"an entry 255", three, two, impl.Linear{{255}}, impl.ErrInvalid},
		{"an entry behind the Dim", two, three, impl.Linear{{0, 0, 0, 1}}, impl.ErrInvalid},
		{"an entry behind that of the second one", three, two, impl.Linear{{1, 1, 1}}, impl.ErrInvalid},
		{"an entry at the end", two, three, impl.Linear{1: {7: 1}}, impl.ErrInvalid},
		{"an image behind the Dim", three, two, impl.Linear{3: {1}}, impl.ErrInvalid},
		{"an image behind that of the first one", two, three, impl.Linear{2: {1, 1, 1}}, impl.ErrInvalid},
		{"the last image", three, two, impl.Linear{7: {0, 1}}, impl.ErrInvalid},
	} {
		if got, code := impl.IsModuleMap(six, c.m, c.k, c.f); got != (c.code == impl.ErrNone) || code != c.code {
			t.Errorf("%s: %v, %d, not %d", c.name, got, code, c.code)
		}
	}
}

// TestListsOfModulesAreNotChanged holds that lists, and the room behind them, stay as they are, and
// that no two lists that are returned share memory.
func TestListsOfModulesAreNotChanged(t *testing.T) {
	h, m := groupHopf(dihedral(5, 3)), permutationModule(3)
	for count := range 5 {
		room := []impl.Vector{{2, 2, 2}, {}, {1, 1, 1}, {0, 3}, {9, 9}, {9, 9}, {9, 9}, {9, 9}, {9, 9}, {9, 9}, {9, 9}, {9, 9}}
		room = slices.Concat(room, room, room, room)
		given := slices.Clone(room)
		if _, code := impl.IsSubmodule(h, m, room[:count]); code != impl.ErrNone {
			t.Errorf("IsSubmodule returns the code %d", code)
		}
		if _, code := impl.QuotientModule(h, m, room[:count]); code != impl.ErrNone && count < 4 {
			t.Errorf("QuotientModule returns the code %d", code)
		}
		if !slices.Equal(room, given) {
			t.Errorf("a list of %d vectors is changed to %v", count, room)
		}
	}
	first, _ := impl.SubmoduleOf(h, m, impl.Vector{1, 4})
	invariants, _ := impl.InvariantsOf(h, m)
	wanted, wantedInvariants := slices.Clone(first), slices.Clone(invariants)
	second, _ := impl.SubmoduleOf(h, m, impl.Vector{1, 4})
	others, _ := impl.InvariantsOf(h, m)
	second[0], others[0] = impl.Vector{77}, impl.Vector{77}
	_, _ = append(second, impl.Vector{77}), append(others, impl.Vector{77})
	if !slices.Equal(first, wanted) || !slices.Equal(invariants, wantedInvariants) {
		t.Errorf("the lists are changed to %v and %v", first, invariants)
	}
}
