package tests

import (
	"fmt"
	"runtime"
	"sync"
	"testing"
	"time"

	"loop.example/g01230/impl"
)

// tensorSample tells a tensor product by its parts.
type tensorSample struct{ first, second hopfSample }

// tensorParts returns small Hopf algebras for a prime, unimodular, semisimple and cosemisimple ones
// and others, each with its dual.
func tensorParts(p int64) []hopfSample {
	parts := []hopfSample{
		{"cyclic 2", groupHopf(cyclic(p, 2))},
		{"cyclic 3", groupHopf(cyclic(p, 3))},
		{"Sweedler's", skewHopf(p, 2, 0)},
	}
	if p <= 3 {
		parts = append(parts, hopfSample{"the line", lineHopf(p, 0)}, hopfSample{"the split line", lineHopf(p, 1)})
	}
	if p == 2 {
		parts = append(parts, hopfSample{"bent", bentHopf()})
	}
	for _, s := range parts {
		parts = append(parts, hopfSample{"the dual of " + s.name, dualHopfByHand(s.hopf)})
	}
	return parts
}

// tensorSamples returns all tensor products of these that have at most the greatest size.
func tensorSamples() []tensorSample {
	var list []tensorSample
	for _, p := range []int64{2, 3, 7, 31} {
		for _, first := range tensorParts(p) {
			for _, second := range tensorParts(p) {
				if first.hopf.Size*second.hopf.Size <= impl.MaxSize {
					list = append(list, tensorSample{first, second})
				}
			}
		}
	}
	return list
}

// integralSamples returns the Hopf algebras that the tests of integrals go through: those of the
// other tests, the ones with names for 7, lines with x^p = k x for all k, and tensor products.
func integralSamples() []hopfSample {
	list := hopfSamples()
	for name, h := range knownByHand(7) {
		list = append(list, hopfSample{name + " for 7", h})
	}
	for _, p := range []int64{3, 5, 7} {
		for k := int64(2); k < p; k++ {
			name := fmt.Sprint("the line for ", p, " with ", k)
			list = append(list, hopfSample{name, lineHopf(p, k)}, hopfSample{"the dual of " + name, dualHopfByHand(lineHopf(p, k))})
		}
	}
	for _, s := range tensorSamples() {
		name := fmt.Sprint(s.first.name, " with ", s.second.name, " for ", s.first.hopf.Prime)
		list = append(list, hopfSample{name, tensorByHand(s.first.hopf, s.second.hopf)})
	}
	return list
}

// integralSide tells on which side vectors are multiplied with an integral.
type integralSide int

const (
	ofLeft integralSide = iota
	ofRight
)

// isIntegralByHand reports whether t is a left or a right integral, straight from the definition.
func isIntegralByHand(h impl.Hopf, t impl.Vector, side integralSide) bool {
	a := algebraPart(h)
	for i := range h.Size {
		v, w := unitVector(i), t
		if side == ofRight {
			v, w = w, v
		}
		if productByHand(a, v, w) != timesByHand(h.Prime, int64(h.Counit[i]), t) {
			return false
		}
	}
	return true
}

// timesByHand returns c v.
func timesByHand(p, c int64, v impl.Vector) impl.Vector {
	return sumByHand(p, impl.Vector{}, c, v)
}

// multiplesByHand returns 0 v, 1 v, .. as keys.
func multiplesByHand(p int64, v impl.Vector) map[impl.Vector]bool {
	found := map[impl.Vector]bool{}
	for c := range p {
		found[timesByHand(p, c, v)] = true
	}
	return found
}

// checkIntegral holds a left or a right integral against the definition. The integrals are a space
// with one vector in its reduced list, so that any of them with 1 as its first entry other than 0
// is the one wanted; where there are few vectors, all are gone through.
func checkIntegral(t *testing.T, name string, h impl.Hopf, got impl.Vector, code int64, side integralSide) {
	t.Helper()
	if code != impl.ErrNone || !isReducedByHand([]impl.Vector{got}) || !isIntegralByHand(h, got, side) {
		t.Errorf("%s: the integral is %v, %d", name, got, code)
	}
	if !impl.IsVector(h.Prime, h.Size, got) {
		t.Errorf("%s: %v is no vector", name, got)
	}
	multiples := multiplesByHand(h.Prime, got)
	for _, v := range allVectors(h.Prime, h.Size) {
		if isIntegralByHand(h, v, side) != multiples[v] {
			t.Errorf("%s: %v is an integral by hand: %v", name, v, !multiples[v])
		}
	}
}

func TestLeftAndRightIntegrals(t *testing.T) {
	for _, s := range integralSamples() {
		left, code := impl.LeftIntegral(s.hopf)
		checkIntegral(t, "left, "+s.name, s.hopf, left, code, ofLeft)
		right, code := impl.RightIntegral(s.hopf)
		checkIntegral(t, "right, "+s.name, s.hopf, right, code, ofRight)
		opposite, _ := impl.OppositeHopf(s.hopf)
		if turned, code := impl.LeftIntegral(opposite); turned != right || code != impl.ErrNone {
			t.Errorf("%s: the left integral of the opposite is %v, %d, not %v", s.name, turned, code, right)
		}
	}
}

func TestIsLeftIntegral(t *testing.T) {
	seen := map[bool]int{}
	for _, s := range integralSamples() {
		h := s.hopf
		left, _ := impl.LeftIntegral(h)
		right, _ := impl.RightIntegral(h)
		list := []impl.Vector{{}, left, right, timesByHand(h.Prime, 2, left), timesByHand(h.Prime, h.Prime-1, left)}
		for i := range h.Size {
			list = append(list, unitVector(i), sumByHand(h.Prime, left, 1, unitVector(i)))
		}
		list = append(list, someVectors(h.Prime, h.Size)[:2]...)
		for _, v := range list {
			want := isIntegralByHand(h, v, ofLeft)
			if got, code := impl.IsLeftIntegral(h, v); got != want || code != impl.ErrNone {
				t.Errorf("%s: %v is a left integral: %v, %d", s.name, v, got, code)
			}
			seen[want]++
		}
	}
	if seen[true] == 0 || seen[false] == 0 {
		t.Errorf("left integrals and others: %v", seen)
	}
}

// TestKindsOfSamples holds the answers against the definitions, and that there are samples of each
// kind: h and its dual may each be unimodular or not, and also semisimple or not, but what is
// semisimple is unimodular.
func TestKindsOfSamples(t *testing.T) {
	type kind struct{ unimodular, semisimple, dualUnimodular, cosemisimple bool }
	seen := map[kind]int{}
	for _, s := range integralSamples() {
		h, d := s.hopf, dualHopfByHand(s.hopf)
		t1, _ := impl.LeftIntegral(h)
		t2, _ := impl.LeftIntegral(d)
		want := kind{
			isIntegralByHand(h, t1, ofRight), counitByHand(coalgebraPart(h), t1) != 0,
			isIntegralByHand(d, t2, ofRight), counitByHand(coalgebraPart(d), t2) != 0,
		}
		unimodular, code1 := impl.IsUnimodular(h)
		semisimple, code2 := impl.IsSemisimple(h)
		dualUnimodular, code3 := impl.IsUnimodular(d)
		cosemisimple, code4 := impl.IsCosemisimple(h)
		if got := (kind{unimodular, semisimple, dualUnimodular, cosemisimple}); got != want {
			t.Errorf("%s is %+v, not %+v", s.name, got, want)
		}
		if code1 != impl.ErrNone || code2 != impl.ErrNone || code3 != impl.ErrNone || code4 != impl.ErrNone {
			t.Errorf("%s: the codes are %d, %d, %d, %d", s.name, code1, code2, code3, code4)
		}
		if semisimple && !unimodular {
			t.Errorf("%s is semisimple, but not unimodular", s.name)
		}
		seen[want]++
	}
	for _, k := range []kind{
		{false, false, false, false}, {false, false, true, false}, {true, false, false, false}, {true, false, true, false},
		{true, false, true, true}, {true, true, true, false}, {true, true, true, true},
	} {
		if seen[k] == 0 {
			t.Errorf("no sample is %+v", k)
		}
	}
}

// TestModularForm holds modular forms against the definition, and that they lead products to
// products, as group-like vectors of the dual do.
func TestModularForm(t *testing.T) {
	seen := map[bool]int{}
	for _, s := range integralSamples() {
		h, a := s.hopf, algebraPart(s.hopf)
		form, code := impl.ModularForm(h)
		if !impl.IsVector(h.Prime, h.Size, form) || code != impl.ErrNone {
			t.Errorf("%s: the modular form is %v, %d", s.name, form, code)
		}
		left, _ := impl.LeftIntegral(h)
		value := func(v impl.Vector) int64 {
			return counitByHand(impl.Coalgebra{Prime: h.Prime, Counit: form}, v)
		}
		for _, v := range someVectors(h.Prime, h.Size) {
			if product := productByHand(a, left, v); product != timesByHand(h.Prime, value(v), left) {
				t.Errorf("%s: %v times %v is %v, but the form is %v", s.name, left, v, product, form)
			}
		}
		if value(h.Unit) != 1 {
			t.Errorf("%s: the modular form leads the Unit to %d", s.name, value(h.Unit))
		}
		for i := range h.Size {
			for j := range h.Size {
				if value(a.Mul[i][j]) != int64(form[i])*int64(form[j])%h.Prime {
					t.Errorf("%s: the modular form of %d times %d is %d", s.name, i, j, value(a.Mul[i][j]))
				}
			}
		}
		if yes, code := impl.IsGroupLike(dualByHand(a), form); !yes || code != impl.ErrNone {
			t.Errorf("%s: the modular form is not group-like: %d", s.name, code)
		}
		unimodular, _ := impl.IsUnimodular(h)
		if unimodular != (form == h.Counit) {
			t.Errorf("%s: unimodular %v, but the modular form is %v", s.name, unimodular, form)
		}
		seen[form == h.Counit]++
	}
	if seen[true] == 0 || seen[false] == 0 {
		t.Errorf("modular forms that are Counits, and others: %v", seen)
	}
}

// leftLegByHand returns the sum of Com[i][j][k] form[k] e(j).
func leftLegByHand(h impl.Hopf, i int64, form impl.Vector) impl.Vector {
	return imageByHand(h.Prime, flipByHand(h.Com[i]), form)
}

// rightLegByHand returns the sum of Com[i][j][k] form[j] e(k).
func rightLegByHand(h impl.Hopf, i int64, form impl.Vector) impl.Vector {
	return imageByHand(h.Prime, h.Com[i], form)
}

// TestCointegralAndModularElement holds both against coproducts: the cointegral as left integral
// makes, of the coproduct of each e(i), its value times the Unit, and on the other side its value
// times the modular element.
func TestCointegralAndModularElement(t *testing.T) {
	seen := map[bool]int{}
	for _, s := range integralSamples() {
		h := s.hopf
		form, code := impl.Cointegral(h)
		if !impl.IsVector(h.Prime, h.Size, form) || !isReducedByHand([]impl.Vector{form}) || code != impl.ErrNone {
			t.Errorf("%s: the cointegral is %v, %d", s.name, form, code)
		}
		element, code := impl.ModularElement(h)
		if !impl.IsVector(h.Prime, h.Size, element) || code != impl.ErrNone {
			t.Errorf("%s: the modular element is %v, %d", s.name, element, code)
		}
		for i := range h.Size {
			value := int64(form[i])
			if got := leftLegByHand(h, i, form); got != timesByHand(h.Prime, value, h.Unit) {
				t.Errorf("%s: the cointegral %v makes %v of e(%d)", s.name, form, got, i)
			}
			if got := rightLegByHand(h, i, form); got != timesByHand(h.Prime, value, element) {
				t.Errorf("%s: the cointegral %v makes %v of e(%d), the modular element is %v", s.name, form, got, i, element)
			}
		}
		if yes, code := impl.IsGroupLike(coalgebraPart(h), element); !yes || code != impl.ErrNone {
			t.Errorf("%s: the modular element is not group-like: %v, %d", s.name, element, code)
		}
		seen[element == h.Unit]++
	}
	if seen[true] == 0 || seen[false] == 0 {
		t.Errorf("modular elements that are Units, and others: %v", seen)
	}
}

// TestIntegralsOfDuals holds that what is told of the one is told of the other one by its dual.
func TestIntegralsOfDuals(t *testing.T) {
	for _, s := range integralSamples() {
		h, d := s.hopf, dualHopfByHand(s.hopf)
		for _, c := range []struct {
			name          string
			first, second func(impl.Hopf) (impl.Vector, int64)
		}{
			{"the cointegral", impl.Cointegral, impl.LeftIntegral},
			{"the left integral", impl.LeftIntegral, impl.Cointegral},
			{"the modular element", impl.ModularElement, impl.ModularForm},
			{"the modular form", impl.ModularForm, impl.ModularElement},
		} {
			v, code := c.first(h)
			if w, other := c.second(d); v != w || code != impl.ErrNone || other != impl.ErrNone {
				t.Errorf("%s: %s is %v, %d, and with the dual %v, %d", s.name, c.name, v, code, w, other)
			}
		}
		semisimple, _ := impl.IsSemisimple(h)
		cosemisimple, _ := impl.IsCosemisimple(h)
		if yes, code := impl.IsCosemisimple(d); yes != semisimple || code != impl.ErrNone {
			t.Errorf("%s: the dual is cosemisimple: %v, %d", s.name, yes, code)
		}
		if yes, code := impl.IsSemisimple(d); yes != cosemisimple || code != impl.ErrNone {
			t.Errorf("%s: the dual is semisimple: %v, %d", s.name, yes, code)
		}
	}
}

// TestAntipodesOfIntegrals holds that S leads the left integral to a number other than 0 times the
// right one.
func TestAntipodesOfIntegrals(t *testing.T) {
	for _, s := range integralSamples() {
		left, _ := impl.LeftIntegral(s.hopf)
		right, _ := impl.RightIntegral(s.hopf)
		image, code := impl.AntipodeOf(s.hopf, left)
		if image == (impl.Vector{}) || !multiplesByHand(s.hopf.Prime, right)[image] || code != impl.ErrNone {
			t.Errorf("%s: S leads %v to %v, %d, and the right integral is %v", s.name, left, image, code, right)
		}
	}
}

// TestFormsHaveTheSizeAsRank holds the first part of promise 5, and the form against the definition.
func TestFormsHaveTheSizeAsRank(t *testing.T) {
	for _, s := range integralSamples() {
		h := s.hopf
		values, _ := impl.Cointegral(h)
		var want impl.Linear
		for i := range h.Size {
			for j := range h.Size {
				want[i][j] = byte(counitByHand(impl.Coalgebra{Prime: h.Prime, Counit: values}, h.Mul[i][j]))
			}
		}
		form, code := impl.FormOf(h)
		if form != want || code != impl.ErrNone {
			t.Errorf("%s: the form is %v, %d, not %v", s.name, form, code, want)
		}
		reduced, _ := impl.ReduceVectors(h.Prime, h.Size, form[:h.Size])
		if int64(len(reduced)) != h.Size {
			t.Errorf("%s: the rows of the form span %d", s.name, len(reduced))
		}
		if rank, code := impl.RankOfForm(h); rank != h.Size || code != impl.ErrNone {
			t.Errorf("%s: the rank is %d, %d, not %d", s.name, rank, code, h.Size)
		}
	}
}

// TestNormedIntegralsAreTheirSquares holds the second part of promise 5: a normed integral is there
// exactly if h is semisimple, a left and a right integral, and its own square.
func TestNormedIntegralsAreTheirSquares(t *testing.T) {
	seen := map[int64]int{}
	for _, s := range integralSamples() {
		h := s.hopf
		left, _ := impl.LeftIntegral(h)
		got, code := impl.NormedIntegral(h)
		seen[code]++
		if counitByHand(coalgebraPart(h), left) == 0 {
			if got != (impl.Vector{}) || code != impl.ErrNotFound {
				t.Errorf("%s: the normed integral is %v, %d, but h is not semisimple", s.name, got, code)
			}
			continue
		}
		if code != impl.ErrNone || !impl.IsVector(h.Prime, h.Size, got) {
			t.Errorf("%s: the normed integral is %v, %d", s.name, got, code)
		}
		if !isIntegralByHand(h, got, ofLeft) || !isIntegralByHand(h, got, ofRight) || counitByHand(coalgebraPart(h), got) != 1 {
			t.Errorf("%s: %v is no normed integral", s.name, got)
		}
		if square, code := impl.MultiplyVectors(algebraPart(h), got, got); square != got || code != impl.ErrNone {
			t.Errorf("%s: the square of %v is %v, %d", s.name, got, square, code)
		}
	}
	if seen[impl.ErrNone] == 0 || seen[impl.ErrNotFound] == 0 {
		t.Errorf("the codes of normed integrals: %v", seen)
	}
}

// traceByHand returns the trace of the linear map that takes S twice.
func traceByHand(h impl.Hopf) int64 {
	sum := int64(0)
	for i := range h.Size {
		for j := range h.Size {
			sum += int64(h.Antipode[i][j]) * int64(h.Antipode[j][i])
		}
	}
	return sum % h.Prime
}

// TestTracesTellWhatIsSemisimple holds promise 16, and the trace against the sum of products of
// entries, and against the Counit of the left integral times the cointegral of the Unit.
func TestTracesTellWhatIsSemisimple(t *testing.T) {
	seen := map[bool]int{}
	for _, s := range integralSamples() {
		h := s.hopf
		trace, code := impl.TraceOfSquare(h)
		if trace != traceByHand(h) || code != impl.ErrNone {
			t.Errorf("%s: the trace is %d, %d, not %d", s.name, trace, code, traceByHand(h))
		}
		semisimple, _ := impl.IsSemisimple(h)
		cosemisimple, _ := impl.IsCosemisimple(h)
		if (trace != 0) != (semisimple && cosemisimple) {
			t.Errorf("%s: semisimple %v, cosemisimple %v, but the trace is %d", s.name, semisimple, cosemisimple, trace)
		}
		left, _ := impl.LeftIntegral(h)
		values, _ := impl.Cointegral(h)
		cointegral := impl.Coalgebra{Prime: h.Prime, Counit: values}
		want := counitByHand(coalgebraPart(h), left) * counitByHand(cointegral, h.Unit) % h.Prime
		if got := trace * counitByHand(cointegral, left) % h.Prime; got != want {
			t.Errorf("%s: the trace times the cointegral of the integral is %d, not %d", s.name, got, want)
		}
		seen[trace != 0]++
	}
	if seen[true] == 0 || seen[false] == 0 {
		t.Errorf("traces other than 0, and 0: %v", seen)
	}
}

// TestTracesAreTheSameAtEachCall asks at the same time from many sides, and holds that all
// goroutines end.
func TestTracesAreTheSameAtEachCall(t *testing.T) {
	before := runtime.NumGoroutine()
	samples := integralSamples()
	var calls sync.WaitGroup
	for range 4 {
		calls.Go(func() {
			for _, s := range samples {
				for range 5 {
					if trace, code := impl.TraceOfSquare(s.hopf); trace != traceByHand(s.hopf) || code != impl.ErrNone {
						t.Errorf("%s: the trace is %d, %d", s.name, trace, code)
					}
				}
			}
		})
	}
	calls.Wait()
	// What has ended may still be counted for a moment.
	for range 1000 {
		if runtime.NumGoroutine() <= before {
			return
		}
		time.Sleep(time.Millisecond)
	}
	t.Errorf("%d goroutines before, %d after", before, runtime.NumGoroutine())
}

// TestIntegralsOfTensorProducts holds that the integrals, and the modular forms and elements, of
// tensor products are made part by part.
func TestIntegralsOfTensorProducts(t *testing.T) {
	for _, s := range tensorSamples() {
		h, k := s.first.hopf, s.second.hopf
		tensor := tensorByHand(h, k)
		for name, part := range map[string]func(impl.Hopf) (impl.Vector, int64){
			"LeftIntegral": impl.LeftIntegral, "RightIntegral": impl.RightIntegral, "Cointegral": impl.Cointegral,
			"ModularForm": impl.ModularForm, "ModularElement": impl.ModularElement,
		} {
			v, _ := part(h)
			w, _ := part(k)
			var want impl.Vector
			for a := range tensor.Size {
				want[a] = byte(int64(v[a/k.Size]) * int64(w[a%k.Size]) % h.Prime)
			}
			if got, code := part(tensor); got != want || code != impl.ErrNone {
				t.Errorf("%s with %s for %d: %s is %v, %d, not %v", s.first.name, s.second.name, h.Prime, name, got, code, want)
			}
		}
	}
}

// integralFacts is all that chapter 5 tells of a Hopf algebra.
type integralFacts struct {
	left, right                          impl.Vector
	unimodular, semisimple, cosemisimple bool
	modularForm, modularElement          impl.Vector
	normed                               impl.Vector
	cointegral                           impl.Vector
	form                                 impl.Linear
	trace                                int64
}

// chosenFacts returns Hopf algebras with what was found of them without the program.
func chosenFacts() []struct {
	name  string
	h     impl.Hopf
	facts integralFacts
} {
	eight := func(x byte) impl.Vector { return impl.Vector{x, x, x, x, x, x, x, x} }
	one := impl.Vector{1}
	inverses8 := impl.Linear{{1}, {7: 1}, {6: 1}, {5: 1}, {4: 1}, {3: 1}, {2: 1}, {1: 1}}
	return []struct {
		name  string
		h     impl.Hopf
		facts integralFacts
	}{
		{"size 1 for 2", groupHopf(cyclic(2, 1)),
			integralFacts{one, one, true, true, true, one, one, one, one, impl.Linear{{1}}, 1}},
		{"size 1 for 31, with the Unit 3 e(0)", impl.Hopf{
			Prime: 31, Size: 1, Unit: impl.Vector{3}, Mul: impl.Table{{{21}}},
			Counit: impl.Vector{21}, Com: impl.Table{{{3}}}, Antipode: impl.Linear{{1}},
		}, integralFacts{one, one, true, true, true, impl.Vector{21}, impl.Vector{3}, impl.Vector{3}, one, impl.Linear{{21}}, 1}},
		{"cyclic 8 for 2", groupHopf(cyclic(2, 8)),
			integralFacts{eight(1), eight(1), true, false, true, eight(1), one, impl.Vector{}, one, inverses8, 0}},
		{"cyclic 8 for 31", groupHopf(cyclic(31, 8)),
			integralFacts{eight(1), eight(1), true, true, true, eight(1), one, eight(4), one, inverses8, 8}},
		{"functions on cyclic 3 for 3", dualHopfByHand(groupHopf(cyclic(3, 3))),
			integralFacts{one, one, true, true, false, one, impl.Vector{1, 1, 1}, one, impl.Vector{1, 1, 1}, identityByHand(3), 0}},
		{"functions on cyclic 3 for 7", dualHopfByHand(groupHopf(cyclic(7, 3))),
			integralFacts{one, one, true, true, true, one, impl.Vector{1, 1, 1}, one, impl.Vector{1, 1, 1}, identityByHand(3), 3}},
		{"the split line for 2", lineHopf(2, 1), integralFacts{impl.Vector{1, 1}, impl.Vector{1, 1}, true, true, false,
			one, one, impl.Vector{1, 1}, impl.Vector{0, 1}, impl.Linear{{0, 1}, {1, 1}}, 0}},
		{"the line for 3 with 2", lineHopf(3, 2), integralFacts{impl.Vector{1, 0, 1}, impl.Vector{1, 0, 1}, true, true, false,
			one, one, impl.Vector{1, 0, 1}, impl.Vector{2: 1}, impl.Linear{{2: 1}, {1: 1}, {1, 0, 2}}, 0}},
		{"the line for 7", lineHopf(7, 0), integralFacts{impl.Vector{6: 1}, impl.Vector{6: 1}, true, false, false,
			one, one, impl.Vector{}, impl.Vector{6: 1},
			impl.Linear{{6: 1}, {5: 1}, {4: 1}, {3: 1}, {2: 1}, {1: 1}, {1}}, 0}},
		{"Sweedler's for 3", sweedlerTables(3), integralFacts{impl.Vector{2: 1, 3: 1}, impl.Vector{2: 1, 3: 2}, false, false, false,
			impl.Vector{1, 2}, impl.Vector{1: 1}, impl.Vector{}, impl.Vector{3: 1}, impl.Linear{{3: 1}, {2: 1}, {1: 2}, {1}}, 0}},
		{"Sweedler's for 31", sweedlerTables(31), integralFacts{impl.Vector{2: 1, 3: 1}, impl.Vector{2: 1, 3: 30}, false, false, false,
			impl.Vector{1, 30}, impl.Vector{1: 1}, impl.Vector{}, impl.Vector{3: 1}, impl.Linear{{3: 1}, {2: 1}, {1: 30}, {1}}, 0}},
		{"the double one for 31", doubleTables(31), integralFacts{impl.Vector{6: 1, 7: 1}, impl.Vector{6: 1, 7: 1}, true, false, false,
			impl.Vector{1, 1}, one, impl.Vector{}, impl.Vector{6: 1},
			impl.Linear{{6: 1}, {7: 1}, {4: 1}, {5: 30}, {2: 30}, {3: 1}, {0: 1}, {1: 1}}, 0}},
		{"bent for 2", bentHopf(), integralFacts{impl.Vector{2: 1, 3: 1}, impl.Vector{1, 1, 1, 1}, false, false, false,
			impl.Vector{1, 1, 1, 1}, impl.Vector{1: 1}, impl.Vector{}, impl.Vector{3: 1},
			impl.Linear{{3: 1}, {2: 1}, {1: 1}, {1, 0, 1, 1}}, 0}},
	}
}

// TestIntegralsChosen holds results against those that were found without the program.
func TestIntegralsChosen(t *testing.T) {
	for _, c := range chosenFacts() {
		got, codes := integralFacts{}, [12]int64{}
		got.left, codes[0] = impl.LeftIntegral(c.h)
		got.right, codes[1] = impl.RightIntegral(c.h)
		got.unimodular, codes[2] = impl.IsUnimodular(c.h)
		got.semisimple, codes[3] = impl.IsSemisimple(c.h)
		got.cosemisimple, codes[4] = impl.IsCosemisimple(c.h)
		got.modularForm, codes[5] = impl.ModularForm(c.h)
		got.modularElement, codes[6] = impl.ModularElement(c.h)
		got.normed, codes[7] = impl.NormedIntegral(c.h)
		got.cointegral, codes[8] = impl.Cointegral(c.h)
		got.form, codes[9] = impl.FormOf(c.h)
		got.trace, codes[10] = impl.TraceOfSquare(c.h)
		rank, code := impl.RankOfForm(c.h)
		codes[11] = code
		want := [12]int64{}
		if !c.facts.semisimple {
			want[7] = impl.ErrNotFound
		}
		if got != c.facts || codes != want || rank != c.h.Size {
			t.Errorf("%s: %+v, the rank %d, the codes %v, not %+v", c.name, got, rank, codes, c.facts)
		}
	}
}

// checkInvalidIntegrals calls all functions of chapter 5 with what is no Hopf algebra.
func checkInvalidIntegrals(t *testing.T, name string, h impl.Hopf) {
	t.Helper()
	check := func(function string, zero bool, code int64) {
		t.Helper()
		if !zero || code != impl.ErrInvalid {
			t.Errorf("%s: %s returns the code %d, its result is the zero value: %v", name, function, code, zero)
		}
	}
	for function, call := range map[string]func(impl.Hopf) (impl.Vector, int64){
		"LeftIntegral": impl.LeftIntegral, "RightIntegral": impl.RightIntegral, "Cointegral": impl.Cointegral,
		"ModularForm": impl.ModularForm, "ModularElement": impl.ModularElement, "NormedIntegral": impl.NormedIntegral,
	} {
		v, code := call(h)
		check(function, v == impl.Vector{}, code)
	}
	for function, call := range map[string]func(impl.Hopf) (bool, int64){
		"IsUnimodular": impl.IsUnimodular, "IsSemisimple": impl.IsSemisimple, "IsCosemisimple": impl.IsCosemisimple,
	} {
		yes, code := call(h)
		check(function, !yes, code)
	}
	for _, v := range []impl.Vector{{}, {1}, {2: 1, 3: 1}, h.Unit} {
		yes, code := impl.IsLeftIntegral(h, v)
		check("IsLeftIntegral", !yes, code)
	}
	form, code := impl.FormOf(h)
	check("FormOf", form == impl.Linear{}, code)
	rank, code := impl.RankOfForm(h)
	check("RankOfForm", rank == 0, code)
	trace, code := impl.TraceOfSquare(h)
	check("TraceOfSquare", trace == 0, code)
}

// TestInvalidIntegrals has tables that are no Hopf algebras, for each axiom that can fail first; the
// integrals of some of them would not be semisimple, which is behind what is invalid.
func TestInvalidIntegrals(t *testing.T) {
	for _, b := range append(brokenShapes(), brokenAxioms()...) {
		checkInvalidIntegrals(t, b.name, b.hopf)
	}
}

// TestInvalidVectorsOfIntegrals has what is a left integral but for its form.
func TestInvalidVectorsOfIntegrals(t *testing.T) {
	for _, c := range []struct {
		name string
		h    impl.Hopf
		v    impl.Vector
	}{
		{"3 for 0", sweedlerTables(3), impl.Vector{2: 3, 3: 3}},
		{"4 for 1", sweedlerTables(3), impl.Vector{2: 4, 3: 4}},
		{"254 and 254", sweedlerTables(3), impl.Vector{2: 254, 3: 254}},
		{"an entry behind", sweedlerTables(3), impl.Vector{2: 1, 3: 1, 4: 1}},
		{"an entry at the end", sweedlerTables(3), impl.Vector{2: 1, 3: 1, 7: 1}},
		{"31 at the end", groupHopf(cyclic(31, 8)), impl.Vector{7: 31}},
		{"32 for 1", groupHopf(cyclic(31, 8)), impl.Vector{32, 32, 32, 32, 32, 32, 32, 32}},
		{"2 for size 1", groupHopf(cyclic(2, 1)), impl.Vector{2}},
		{"an entry behind for size 1", groupHopf(cyclic(2, 1)), impl.Vector{1, 1}},
		{"neither a vector nor a Hopf algebra", impl.Hopf{}, impl.Vector{255}},
	} {
		if yes, code := impl.IsLeftIntegral(c.h, c.v); yes || code != impl.ErrInvalid {
			t.Errorf("%s: %v, %d", c.name, yes, code)
		}
	}
}
