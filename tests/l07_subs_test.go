package tests

import (
	"fmt"
	"math/rand"
	"slices"
	"testing"

	"loop.example/g01230/impl"
)

// checkSpace holds that a function returned the reduced list that is wanted.
func checkSpace(t *testing.T, name string, got []impl.Vector, code int64, want []impl.Vector) {
	t.Helper()
	if !slices.Equal(got, want) || !isReducedByHand(got) || code != impl.ErrNone {
		t.Errorf("%s: %v, %d, not %v", name, got, code, want)
	}
}

// checkAnswer holds an answer.
func checkAnswer(t *testing.T, name string, got bool, code int64, want bool) {
	t.Helper()
	if got != want || code != impl.ErrNone {
		t.Errorf("%s: %v, %d, not %v", name, got, code, want)
	}
}

// checkMap holds that a linear map is a map of Hopf algebras.
func checkMap(t *testing.T, name string, h, k impl.Hopf, f impl.Linear) {
	t.Helper()
	if yes, code := impl.IsHopfMap(h, k, f); !yes || code != impl.ErrNone {
		t.Errorf("%s: %v is a map of Hopf algebras: %v, %d", name, f, yes, code)
	}
}

// checkSub holds what is told of the space of a list as a sub Hopf algebra. Its tables are right
// exactly if they are those of a Hopf algebra from which the reduced list leads into h.
func checkSub(t *testing.T, s hopfSample, list []impl.Vector, isSub bool) {
	t.Helper()
	name := fmt.Sprint(s.name, ", ", list)
	yes, code := impl.IsSubHopf(s.hopf, list)
	checkAnswer(t, name+" is a sub Hopf algebra", yes, code, isSub)
	sub, code := impl.SubHopf(s.hopf, list)
	if !isSub {
		if sub != (impl.Hopf{}) || code != impl.ErrState {
			t.Errorf("%s: the sub Hopf algebra is %v, %d", name, sub, code)
		}
		return
	}
	checkHopf(t, name, sub, code)
	reduced := spaceOf(s.hopf, list...)
	if sub.Size != int64(len(reduced)) {
		t.Errorf("%s: the size is %d, not %d", name, sub.Size, len(reduced))
	}
	var f impl.Linear
	copy(f[:], reduced)
	checkMap(t, name, sub, s.hopf, f)
}

// checkIdeal holds what is told of the space of a list as a Hopf ideal. The tables of the quotient
// are right exactly if they are those of a Hopf algebra to which the basis elements that are left
// lead as its basis, and the list as 0.
func checkIdeal(t *testing.T, s hopfSample, list []impl.Vector, isIdeal bool) {
	t.Helper()
	name := fmt.Sprint(s.name, ", ", list)
	yes, code := impl.IsHopfIdeal(s.hopf, list)
	checkAnswer(t, name+" is a Hopf ideal", yes, code, isIdeal)
	quotient, code := impl.QuotientHopf(s.hopf, list)
	if !isIdeal {
		if quotient != (impl.Hopf{}) || code != impl.ErrState {
			t.Errorf("%s: the quotient is %v, %d", name, quotient, code)
		}
		return
	}
	checkHopf(t, name, quotient, code)
	reduced := spaceOf(s.hopf, list...)
	if quotient.Size != s.hopf.Size-int64(len(reduced)) {
		t.Errorf("%s: the size is %d, not %d less %d", name, quotient.Size, s.hopf.Size, len(reduced))
	}
	checkMap(t, name, s.hopf, quotient, projectionByHand(s.hopf.Prime, s.hopf.Size, reduced))
}

// checkNormal holds what is told of the space of a list as a normal sub Hopf algebra: its ideal is a
// Hopf ideal, the quotient by which has the size of h divided by its own one.
func checkNormal(t *testing.T, s hopfSample, list []impl.Vector, isNormal bool) {
	t.Helper()
	name := fmt.Sprint(s.name, ", ", list)
	yes, code := impl.IsNormalSub(s.hopf, list)
	checkAnswer(t, name+" is normal", yes, code, isNormal)
	ideal, code := impl.IdealOfSub(s.hopf, list)
	if !isNormal {
		if len(ideal) != 0 || code != impl.ErrState {
			t.Errorf("%s: the ideal is %v, %d", name, ideal, code)
		}
		return
	}
	reduced := spaceOf(s.hopf, list...)
	checkSpace(t, name+", the ideal", ideal, code, idealOfSubByHand(s.hopf, reduced))
	if !idealFactsByHand(s.hopf, ideal).isIdeal() {
		t.Errorf("%s: the ideal %v is no Hopf ideal", name, ideal)
	}
	quotient, code := impl.QuotientHopf(s.hopf, ideal)
	if quotient.Size*int64(len(reduced)) != s.hopf.Size || code != impl.ErrNone {
		t.Errorf("%s: the quotient by the ideal has the size %d, %d", name, quotient.Size, code)
	}
}

func TestLegsOf(t *testing.T) {
	t.Parallel()
	for _, s := range subSamples() {
		h := s.hopf
		for _, v := range append(someVectors(h.Prime, h.Size), h.Unit) {
			legs, code := impl.LegsOf(h, v)
			checkSpace(t, fmt.Sprint(s.name, ", the legs of ", v), legs, code, spaceOf(h, legsByHand(h, v)...))
			if !hasByHand(h, legs, []impl.Vector{v}) {
				t.Errorf("%s: the legs %v do not span %v", s.name, legs, v)
			}
		}
		legs, code := impl.LegsOf(h, impl.Vector{})
		checkSpace(t, s.name+", the legs of 0", legs, code, nil)
	}
}

// TestSubsOfAllSmall goes through all spaces of small Hopf algebras, and holds that some of them lack
// just the one or the other property of sub Hopf algebras. (S leads each space with the others into
// itself, since there are finitely many basis elements, and only the space of 0 has all but the Unit.)
func TestSubsOfAllSmall(t *testing.T) {
	t.Parallel()
	seen := map[subFacts]int{}
	for _, s := range smallSubSamples() {
		subs, normal := 0, 0
		for i, space := range allSpaces(s.hopf.Prime, s.hopf.Size) {
			facts := subFactsByHand(s.hopf, space)
			isNormal := facts.isSub() && isNormalByHand(s.hopf, space)
			seen[facts]++
			if facts.isSub() {
				subs++
			}
			if isNormal {
				normal++
			}
			list := disguises(s.hopf.Prime, space)[i%4]
			checkSub(t, s.hopfSample, list, facts.isSub())
			checkNormal(t, s.hopfSample, list, isNormal)
		}
		if s.subs > 0 && (subs != s.subs || normal != s.normal) {
			t.Errorf("%s: %d sub Hopf algebras, and %d normal ones", s.name, subs, normal)
		}
	}
	for _, facts := range []subFacts{
		{true, true, true, true}, {false, true, true, true}, {true, false, true, true}, {true, true, false, true},
		{true, true, false, false}, {true, false, true, false}, {false, false, false, false},
	} {
		if seen[facts] == 0 {
			t.Errorf("no space has %+v", facts)
		}
	}
}

// TestIdealsOfAllSmall does so for Hopf ideals. (Only the space of all vectors has all properties but
// the Counits.)
func TestIdealsOfAllSmall(t *testing.T) {
	t.Parallel()
	seen := map[idealFacts]int{}
	for _, s := range smallSubSamples() {
		ideals := 0
		for i, space := range allSpaces(s.hopf.Prime, s.hopf.Size) {
			facts := idealFactsByHand(s.hopf, space)
			seen[facts]++
			if facts.isIdeal() {
				ideals++
			}
			checkIdeal(t, s.hopfSample, disguises(s.hopf.Prime, space)[i%4], facts.isIdeal())
		}
		if s.ideals > 0 && ideals != s.ideals {
			t.Errorf("%s: %d Hopf ideals", s.name, ideals)
		}
	}
	for _, facts := range []idealFacts{
		{true, true, true, true, true}, {true, true, true, false, true}, {true, true, true, true, false},
		{false, false, true, true, true}, {true, false, false, true, true}, {false, true, false, true, true},
		{true, true, true, false, false}, {false, false, false, false, false},
	} {
		if seen[facts] == 0 {
			t.Errorf("no space has %+v", facts)
		}
	}
}

// TestGeneratedSubOfAllSmall holds, for all spaces of small Hopf algebras, that what they generate is
// the least sub Hopf algebra that has them.
func TestGeneratedSubOfAllSmall(t *testing.T) {
	t.Parallel()
	for _, s := range smallSubSamples() {
		h := s.hopf
		spaces := allSpaces(h.Prime, h.Size)
		subs := slices.DeleteFunc(slices.Clone(spaces), func(space []impl.Vector) bool {
			return !subFactsByHand(h, space).isSub()
		})
		for i, space := range spaces {
			above := slices.DeleteFunc(slices.Clone(subs), func(sub []impl.Vector) bool {
				return !hasByHand(h, sub, space)
			})
			least := slices.MinFunc(above, func(sub, other []impl.Vector) int { return len(sub) - len(other) })
			for _, sub := range above {
				if !hasByHand(h, sub, least) {
					t.Errorf("%s: %v has no least sub Hopf algebra above it", s.name, space)
				}
			}
			list := disguises(h.Prime, space)[i%4]
			got, code := impl.GeneratedSub(h, list)
			checkSpace(t, fmt.Sprint(s.name, ", generated by ", list), got, code, least)
		}
	}
}

// TestIdealsOfDuals holds, for all spaces of small Hopf algebras, that a space is a sub Hopf algebra
// exactly if the linear functions that are 0 on it are a Hopf ideal of the dual.
func TestIdealsOfDuals(t *testing.T) {
	t.Parallel()
	for _, s := range smallSubSamples() {
		dual := dualHopfByHand(s.hopf)
		for _, space := range allSpaces(s.hopf.Prime, s.hopf.Size) {
			sub, subCode := impl.IsSubHopf(s.hopf, space)
			functions := annihilatorByHand(dual, space)
			ideal, idealCode := impl.IsHopfIdeal(dual, functions)
			if sub != ideal || subCode != impl.ErrNone || idealCode != impl.ErrNone {
				t.Errorf("%s: %v is a sub Hopf algebra: %v, %d, and %v an ideal: %v, %d",
					s.name, space, sub, subCode, functions, ideal, idealCode)
			}
		}
	}
}

// TestGeneratedSub holds the first part of promise 7 and the guarantee: what is generated is a sub
// Hopf algebra with a Hopf algebra as its table, and its size divides that of h.
func TestGeneratedSub(t *testing.T) {
	t.Parallel()
	proper := 0
	for _, s := range subSamples() {
		h := s.hopf
		for i, seed := range seedsOf(s) {
			got, code := impl.GeneratedSub(h, seed)
			checkSpace(t, fmt.Sprint(s.name, ", generated by ", seed), got, code, generatedByHand(h, seed))
			if len(got) == 0 || h.Size%int64(len(got)) != 0 {
				t.Fatalf("%s: the size generated by %v is %d", s.name, seed, len(got))
			}
			if !hasByHand(h, got, seed) || !subFactsByHand(h, got).isSub() {
				t.Errorf("%s: %v generates %v, which is no sub Hopf algebra with it", s.name, seed, got)
			}
			checkSub(t, s, got, true)
			if len(got) > 1 && int64(len(got)) < h.Size {
				proper++
			}
			list := disguises(h.Prime, seed)[i%4]
			again, code := impl.GeneratedSub(h, list)
			checkSpace(t, fmt.Sprint(s.name, ", generated by ", list), again, code, got)
			again, code = impl.GeneratedSub(h, got)
			checkSpace(t, fmt.Sprint(s.name, ", generated by ", got), again, code, got)
		}
	}
	if proper < 100 {
		t.Errorf("only %d generated ones are neither the least nor all", proper)
	}
}

func TestSubsOfSamples(t *testing.T) {
	t.Parallel()
	seen := map[[2]bool]int{}
	for _, s := range subSamples() {
		for i, space := range spacesOf(s) {
			isSub := subFactsByHand(s.hopf, space).isSub()
			isNormal := isSub && isNormalByHand(s.hopf, space)
			seen[[2]bool{isSub, isNormal}]++
			list := disguises(s.hopf.Prime, space)[i%4]
			checkSub(t, s, list, isSub)
			checkNormal(t, s, list, isNormal)
		}
	}
	if seen[[2]bool{false, false}] < 100 || seen[[2]bool{true, false}] < 30 || seen[[2]bool{true, true}] < 100 {
		t.Errorf("sub Hopf algebras and normal ones: %v", seen)
	}
}

// TestIdealsOfSamples holds the second part of promise 7 beside the definition of Hopf ideals.
func TestIdealsOfSamples(t *testing.T) {
	t.Parallel()
	proper, others := 0, 0
	for _, s := range subSamples() {
		for i, space := range spacesOf(s) {
			isIdeal := idealFactsByHand(s.hopf, space).isIdeal()
			checkIdeal(t, s, disguises(s.hopf.Prime, space)[i%4], isIdeal)
			if !isIdeal {
				others++
			} else if len(space) > 0 && int64(len(space)) < s.hopf.Size-1 {
				proper++
			}
		}
	}
	if proper < 100 || others < 100 {
		t.Errorf("%d Hopf ideals are neither 0 nor the augmentation ideal, and %d spaces are none", proper, others)
	}
}

// TestLeastAndGreatestSpaces has the edge cases of all samples: the space of 0, that of the Unit, the
// augmentation ideal, and that of all vectors.
func TestLeastAndGreatestSpaces(t *testing.T) {
	t.Parallel()
	for _, s := range subSamples() {
		h := s.hopf
		whole, one := basisByHand(h.Size), spaceOf(h, h.Unit)
		augmentation, code := impl.AugmentationIdeal(h)
		checkSpace(t, s.name+", the augmentation ideal", augmentation, code, spaceOf(h, withoutCounitByHand(h, whole)...))
		if int64(len(augmentation)) != h.Size-1 {
			t.Errorf("%s: the augmentation ideal is %v", s.name, augmentation)
		}
		for _, zero := range [][]impl.Vector{nil, {}, {{}}, {{}, {}}} {
			checkSub(t, s, zero, false)
			checkNormal(t, s, zero, false)
			if got, code := impl.QuotientHopf(h, zero); got != h || code != impl.ErrNone {
				t.Errorf("%s: the quotient by %v is %v, %d", s.name, zero, got, code)
			}
			checkIdeal(t, s, zero, true)
			got, code := impl.GeneratedSub(h, zero)
			checkSpace(t, s.name+", generated by 0", got, code, one)
		}
		for _, list := range [][]impl.Vector{{h.Unit}, disguised(h.Prime, one), whole, disguised(h.Prime, whole)} {
			checkSub(t, s, list, true)
			checkNormal(t, s, list, true)
			checkIdeal(t, s, list, false)
		}
		if got, code := impl.SubHopf(h, whole); got != h || code != impl.ErrNone {
			t.Errorf("%s: all vectors are the sub Hopf algebra %v, %d", s.name, got, code)
		}
		got, code := impl.IdealOfSub(h, []impl.Vector{h.Unit})
		checkSpace(t, s.name+", the ideal of the Unit", got, code, nil)
		got, code = impl.IdealOfSub(h, whole)
		checkSpace(t, s.name+", the ideal of all", got, code, augmentation)
		checkSub(t, s, augmentation, false)
		checkNormal(t, s, augmentation, false)
		checkIdeal(t, s, augmentation, true)
		if got, code := impl.QuotientHopf(h, augmentation); got.Size != 1 || code != impl.ErrNone {
			t.Errorf("%s: the quotient by the augmentation ideal is %v, %d", s.name, got, code)
		}
	}
}

// checkAdjoint holds an adjoint action against what it has to be.
func checkAdjoint(t *testing.T, s hopfSample, a, b impl.Vector, right bool, want impl.Vector) {
	t.Helper()
	if got, code := impl.AdjointAction(s.hopf, a, b, right); got != want || code != impl.ErrNone {
		t.Errorf("%s: %v on %v, right %v: %v, %d, not %v", s.name, a, b, right, got, code, want)
	}
}

// TestAdjointAction holds both actions against the definition.
func TestAdjointAction(t *testing.T) {
	t.Parallel()
	seen := map[bool]int{}
	for _, s := range subSamples() {
		h := s.hopf
		source := rand.New(rand.NewSource(h.Prime + h.Size))
		a, b := randomVector(source, h.Prime, h.Size), randomVector(source, h.Prime, h.Size)
		for _, c := range append(basisByHand(h.Size), a, impl.Vector{}) {
			left, right := adjointActionByHand(h, c, b, false), adjointActionByHand(h, c, b, true)
			checkAdjoint(t, s, c, b, false, left)
			checkAdjoint(t, s, c, b, true, right)
			checkAdjoint(t, s, c, impl.Vector{}, false, impl.Vector{})
			seen[left == right]++
		}
	}
	if seen[true] < 100 || seen[false] < 100 {
		t.Errorf("actions that are the same, and others: %v", seen)
	}
}

// TestAdjointActionsAreActions holds that products act as their factors do, one after the other, that
// the Unit leads each vector to itself, and is led to the Counit times the Unit.
func TestAdjointActionsAreActions(t *testing.T) {
	t.Parallel()
	for _, s := range subSamples() {
		h := s.hopf
		source := rand.New(rand.NewSource(h.Prime - h.Size))
		a, b, v := randomVector(source, h.Prime, h.Size), randomVector(source, h.Prime, h.Size), randomVector(source, h.Prime, h.Size)
		for _, right := range []bool{false, true} {
			first, second := b, a
			if right {
				first, second = a, b
			}
			w, _ := impl.AdjointAction(h, first, v, right)
			w, _ = impl.AdjointAction(h, second, w, right)
			checkAdjoint(t, s, productByHand(algebraPart(h), a, b), v, right, w)
			checkAdjoint(t, s, h.Unit, v, right, v)
			for _, c := range append(basisByHand(h.Size), a) {
				checkAdjoint(t, s, c, h.Unit, right, timesByHand(h.Prime, counitByHand(coalgebraPart(h), c), h.Unit))
			}
		}
	}
}

// TestAdjointModules holds the left action against the adjoint module (chapter 8), as a module of
// chapter 6, whose submodules with the Unit are what is normal on the left.
func TestAdjointModules(t *testing.T) {
	t.Parallel()
	for _, s := range smallSubSamples() {
		h, m := s.hopf, adjointByHand(s.hopf)
		for _, a := range someVectors(h.Prime, h.Size) {
			v := unitVector(h.Size - 1)
			want, _ := impl.ActOn(h, m, a, v)
			if got, code := impl.AdjointAction(h, a, v, false); got != want || code != impl.ErrNone {
				t.Errorf("%s: %v on %v is %v, %d, not %v", s.name, a, v, got, code, want)
			}
		}
		for _, space := range allSpaces(h.Prime, h.Size) {
			if sub, _ := impl.IsSubHopf(h, space); sub {
				want, _ := impl.IsSubmodule(h, m, space)
				yes, code := impl.IsNormalSub(h, space)
				checkAnswer(t, fmt.Sprint(s.name, ", ", space, " is normal"), yes, code, want)
			}
		}
	}
}

// numbersOf returns the numbers of a set of group elements, told by the digits of a number.
func numbersOf(n int, digits int) []int64 {
	var numbers []int64
	for i := range n {
		if digits>>i&1 == 1 {
			numbers = append(numbers, int64(i))
		}
	}
	return numbers
}

// vectorsAt returns the basis elements at places.
func vectorsAt(places []int64) []impl.Vector {
	var list []impl.Vector
	for _, place := range places {
		list = append(list, unitVector(place))
	}
	return list
}

// subgroupOf returns the numbers, in ascending order, of the subgroup that is generated by some.
func subgroupOf(table [][]int64, numbers []int64) []int64 {
	has := map[int64]bool{0: true}
	for range table {
		for x := range int64(len(table)) {
			for _, y := range numbers {
				if has[x] {
					has[table[x][y]] = true
				}
			}
		}
	}
	var list []int64
	for x := range int64(len(table)) {
		if has[x] {
			list = append(list, x)
		}
	}
	return list
}

// leftCosets returns the cosets x N of a subgroup, each one in ascending order, in that of their
// greatest numbers.
func leftCosets(table [][]int64, subgroup []int64) [][]int64 {
	var cosets [][]int64
	for x := range table {
		var coset []int64
		for _, y := range subgroup {
			coset = append(coset, table[x][y])
		}
		slices.Sort(coset)
		if coset[len(coset)-1] == int64(x) {
			cosets = append(cosets, coset)
		}
	}
	return cosets
}

// isNormalSubgroup reports whether each x N is N x.
func isNormalSubgroup(table [][]int64, subgroup []int64) bool {
	for x := range table {
		for _, y := range subgroup {
			if !slices.ContainsFunc(subgroup, func(z int64) bool { return table[x][y] == table[z][x] }) {
				return false
			}
		}
	}
	return true
}

// cosetHopf returns the group algebra of the cosets of a normal subgroup.
func cosetHopf(p int64, table [][]int64, cosets [][]int64) impl.Hopf {
	place := func(x int64) int64 {
		return int64(slices.IndexFunc(cosets, func(coset []int64) bool { return slices.Contains(coset, x) }))
	}
	h := hopfOf(impl.Algebra{Prime: p, Size: int64(len(cosets))}, pointsCoalgebra(p, int64(len(cosets))), impl.Linear{})
	h.Unit = unitVector(place(0))
	for i, coset := range cosets {
		for j, other := range cosets {
			k := place(table[coset[0]][other[0]])
			h.Mul[i][j] = unitVector(k)
			if unitVector(k) == h.Unit {
				h.Antipode[i] = unitVector(int64(j))
			}
		}
	}
	return h
}

// singles returns the sets of one number each.
func singles(numbers []int64) [][]int64 {
	var sets [][]int64
	for _, x := range numbers {
		sets = append(sets, []int64{x})
	}
	return sets
}

// TestSubsOfGroupAlgebras goes through all sets of group elements: sub Hopf algebras of group algebras
// are those of subgroups, normal ones those of normal subgroups, and the quotients by their ideals
// the group algebras of the cosets, of each of which the greatest element is left.
func TestSubsOfGroupAlgebras(t *testing.T) {
	t.Parallel()
	for _, s := range groupSamples() {
		for _, p := range []int64{2, 31} {
			h := hopfSample{fmt.Sprint(s.name, " for ", p), groupHopf(algebraOfTable(p, s.table))}
			source := rand.New(rand.NewSource(p))
			for digits := range 1 << len(s.table) {
				numbers := numbersOf(len(s.table), digits)
				subgroup := subgroupOf(s.table, numbers)
				var sum impl.Vector
				for _, x := range numbers {
					sum[x] = byte(1 + source.Int63n(p-1))
				}
				for _, list := range [][]impl.Vector{vectorsAt(numbers), {sum}} {
					got, code := impl.GeneratedSub(h.hopf, list)
					checkSpace(t, fmt.Sprint(h.name, ", generated by ", list), got, code, vectorsAt(subgroup))
				}
				if len(subgroup) > len(numbers) {
					checkSub(t, h, vectorsAt(numbers), false)
					checkNormal(t, h, vectorsAt(numbers), false)
					continue
				}
				checkSubgroup(t, h, s.table, subgroup)
			}
		}
	}
}

// checkSubgroup holds what is told of the span of a subgroup.
func checkSubgroup(t *testing.T, s hopfSample, table [][]int64, subgroup []int64) {
	t.Helper()
	list, p := vectorsAt(subgroup), s.hopf.Prime
	slices.Reverse(list)
	checkSub(t, s, list, true)
	if sub, _ := impl.SubHopf(s.hopf, list); sub != cosetHopf(p, table, singles(subgroup)) {
		t.Errorf("%s: the sub Hopf algebra of %v is %v", s.name, subgroup, sub)
	}
	isNormal := isNormalSubgroup(table, subgroup)
	checkNormal(t, s, list, isNormal)
	if !isNormal {
		return
	}
	ideal, _ := impl.IdealOfSub(s.hopf, list)
	quotient, code := impl.QuotientHopf(s.hopf, ideal)
	if want := cosetHopf(p, table, leftCosets(table, subgroup)); quotient != want || code != impl.ErrNone {
		t.Errorf("%s: the quotient by %v is %v, %d, not %v", s.name, subgroup, quotient, code, want)
	}
}

// TestIdealsOfFunctions goes through all sets of group elements: the functions on a group that are 0
// on a set are a Hopf ideal exactly if it is a subgroup, and the quotient has the functions on it.
// Those that do not differ within the cosets of a subgroup are a sub Hopf algebra exactly if it is
// normal.
func TestIdealsOfFunctions(t *testing.T) {
	t.Parallel()
	for _, s := range groupSamples() {
		p, n := int64(5), len(s.table)
		h := hopfSample{"functions on " + s.name, dualHopfByHand(groupHopf(algebraOfTable(p, s.table)))}
		for digits := range 1 << n {
			numbers := numbersOf(n, digits)
			isSubgroup := slices.Equal(numbers, subgroupOf(s.table, numbers))
			list := vectorsAt(numbersOf(n, 1<<n-1-digits))
			checkIdeal(t, h, list, isSubgroup)
			if !isSubgroup {
				continue
			}
			want := dualHopfByHand(cosetHopf(p, s.table, singles(numbers)))
			if got, code := impl.QuotientHopf(h.hopf, list); got != want || code != impl.ErrNone {
				t.Errorf("%s: the quotient with %v is %v, %d, not %v", h.name, numbers, got, code, want)
			}
			cosets := leftCosets(s.table, numbers)
			slices.SortFunc(cosets, slices.Compare)
			var sums []impl.Vector
			for _, coset := range cosets {
				var sum impl.Vector
				for _, x := range coset {
					sum[x] = 1
				}
				sums = append(sums, sum)
			}
			isNormal := isNormalSubgroup(s.table, numbers)
			checkSub(t, h, sums, isNormal)
			checkNormal(t, h, sums, isNormal)
			if got, _ := impl.SubHopf(h.hopf, sums); isNormal && got != dualHopfByHand(cosetHopf(p, s.table, cosets)) {
				t.Errorf("%s: the functions on the cosets of %v are %v", h.name, numbers, got)
			}
		}
	}
}

// TestSubsOfLines holds that lines and their duals, whose sizes are primes, have no others but the
// least and the greatest ones.
func TestSubsOfLines(t *testing.T) {
	t.Parallel()
	for _, p := range []int64{2, 3, 5, 7} {
		for k := range p {
			for _, h := range []impl.Hopf{lineHopf(p, k), dualHopfByHand(lineHopf(p, k))} {
				s := hopfSample{fmt.Sprint("line ", p, " with ", k), h}
				for _, v := range someVectors(p, p) {
					want := basisByHand(p)
					isMultiple := hasByHand(h, []impl.Vector{h.Unit}, []impl.Vector{v})
					if isMultiple {
						want = spaceOf(h, h.Unit)
					}
					got, code := impl.GeneratedSub(h, []impl.Vector{v})
					checkSpace(t, fmt.Sprint(s.name, ", generated by ", v), got, code, want)
					checkIdeal(t, s, []impl.Vector{v}, v == impl.Vector{} || p == 2 && counitByHand(coalgebraPart(h), v) == 0)
				}
			}
		}
	}
}

// TestSubsOfTensorProducts holds that both parts lie in a tensor product as normal sub Hopf algebras,
// that the quotient by the ideal of the one is the other one, and that sub Hopf algebras of both
// parts together are one of the tensor product.
func TestSubsOfTensorProducts(t *testing.T) {
	t.Parallel()
	for _, pair := range tensorSamples() {
		h, k := pair.first.hopf, pair.second.hopf
		s := hopfSample{pair.first.name + " with " + pair.second.name, tensorByHand(h, k)}
		tensor := func(v, w impl.Vector) impl.Vector {
			var product impl.Vector
			for place := range h.Size * k.Size {
				product[place] = byte(int64(v[place/k.Size]) * int64(w[place%k.Size]) % h.Prime)
			}
			return product
		}
		pairs := func(list, other []impl.Vector) []impl.Vector {
			var products []impl.Vector
			for _, v := range list {
				for _, w := range other {
					products = append(products, tensor(v, w))
				}
			}
			return products
		}
		first, second := basisByHand(h.Size), basisByHand(k.Size)
		for _, list := range [][]impl.Vector{pairs(first, []impl.Vector{k.Unit}), pairs([]impl.Vector{h.Unit}, second)} {
			checkSub(t, s, list, true)
			checkNormal(t, s, list, true)
		}
		checkQuotientOfTensor(t, s, h, pairs(first, []impl.Vector{k.Unit}), func(v impl.Vector) impl.Linear {
			var f impl.Linear
			for place := range s.hopf.Size {
				f[place] = timesByHand(h.Prime, int64(v[place/k.Size]), unitVector(place%k.Size))
			}
			return f
		}, k)
		v, w := unitVector(h.Size/2), unitVector(k.Size/2)
		got, code := impl.GeneratedSub(s.hopf, []impl.Vector{tensor(v, k.Unit), tensor(h.Unit, w)})
		want := pairs(generatedByHand(h, []impl.Vector{v}), generatedByHand(k, []impl.Vector{w}))
		checkSpace(t, fmt.Sprint(s.name, ", generated by ", v, " and ", w), got, code, spaceOf(s.hopf, want...))
	}
}

// checkQuotientOfTensor holds that the quotient by the ideal of the first part of a tensor product is
// the second part, to which the Counits of the first part lead.
func checkQuotientOfTensor(t *testing.T, s hopfSample, h impl.Hopf, list []impl.Vector, lead func(counit impl.Vector) impl.Linear, k impl.Hopf) {
	t.Helper()
	ideal, code := impl.IdealOfSub(s.hopf, list)
	f := lead(h.Counit)
	for _, v := range ideal {
		if w := imageByHand(h.Prime, f, v); w != (impl.Vector{}) || code != impl.ErrNone {
			t.Errorf("%s: the vector %v of the ideal is led to %v, %d", s.name, v, w, code)
		}
	}
	quotient, code := impl.QuotientHopf(s.hopf, ideal)
	if quotient.Size != k.Size || code != impl.ErrNone {
		t.Errorf("%s: the quotient is %v, %d", s.name, quotient, code)
	}
	// The last basis element of h with a Counit stands for this number times the Unit.
	last := h.Size - 1
	for h.Counit[last] == 0 {
		last--
	}
	if h.Counit[last] == 1 && quotient != k {
		t.Errorf("%s: the quotient is %v, not %v", s.name, quotient, k)
	}
}

// scaledHopf returns the Hopf algebra of size 1 for 31 with the Unit 3 e(0).
func scaledHopf() impl.Hopf {
	return impl.Hopf{
		Prime: 31, Size: 1, Unit: impl.Vector{3}, Mul: impl.Table{{{21}}},
		Counit: impl.Vector{21}, Com: impl.Table{{{3}}}, Antipode: impl.Linear{{1}},
	}
}

// TestSubsChosen holds results against those that were found without the program: what a list
// generates, its tables, and the ideal and the quotient by it, if it is normal.
func TestSubsChosen(t *testing.T) {
	six, functions := groupHopf(dihedral(31, 3)), dualHopfByHand(groupHopf(dihedral(5, 3)))
	w, double, two := sweedlerTables(31), doubleTables(31), groupHopf(cyclic(31, 2))
	tensor := tensorByHand(groupHopf(cyclic(3, 2)), sweedlerTables(3))
	e := unitVector
	for _, c := range []struct {
		name      string
		h         impl.Hopf
		list      []impl.Vector
		generated []impl.Vector
		sub       impl.Hopf
		normal    bool
		ideal     []impl.Vector
		quotient  impl.Hopf
	}{
		{"turns", six, []impl.Vector{{2: 7}}, []impl.Vector{e(0), e(1), e(2)}, groupHopf(cyclic(31, 3)),
			true, []impl.Vector{{1, 0, 30}, {0, 1, 30}, {3: 1, 5: 30}, {4: 1, 5: 30}}, two},
		{"a reflection", six, []impl.Vector{{0: 4, 4: 30}}, []impl.Vector{e(0), e(4)}, two, false, nil, impl.Hopf{}},
		{"two reflections", six, []impl.Vector{{4: 1, 5: 1}}, basisByHand(6), six, true,
			[]impl.Vector{{0: 1, 5: 30}, {1: 1, 5: 30}, {2: 1, 5: 30}, {3: 1, 5: 30}, {4: 1, 5: 30}}, groupHopf(cyclic(31, 1))},
		{"functions of the signs", functions, []impl.Vector{{2, 2, 2, 3, 3, 3}}, []impl.Vector{{1, 1, 1}, {3: 1, 4: 1, 5: 1}},
			dualHopfByHand(groupHopf(cyclic(5, 2))), true, []impl.Vector{e(3), e(4), e(5)}, dualHopfByHand(groupHopf(cyclic(5, 3)))},
		{"a function of one element", functions, []impl.Vector{e(1)}, basisByHand(6), functions, true,
			[]impl.Vector{e(1), e(2), e(3), e(4), e(5)}, groupHopf(cyclic(5, 1))},
		{"g of Sweedler's", w, []impl.Vector{{3, 5}}, []impl.Vector{e(0), e(1)}, two, false, nil, impl.Hopf{}},
		{"g x of Sweedler's", w, []impl.Vector{e(3)}, basisByHand(4), w, true,
			[]impl.Vector{{1, 30}, e(2), e(3)}, groupHopf(cyclic(31, 1))},
		{"x of the double one", double, []impl.Vector{e(2)}, []impl.Vector{e(0), e(1), e(2), e(3)}, w, false, nil, impl.Hopf{}},
		{"x + 2 y of the double one", double, []impl.Vector{{2: 1, 4: 2}},
			[]impl.Vector{e(0), e(1), {2: 1, 4: 2}, {3: 1, 5: 2}}, w, false, nil, impl.Hopf{}},
		{"x y of the double one", double, []impl.Vector{e(6)}, basisByHand(8), double, true,
			[]impl.Vector{{1, 30}, e(2), e(3), e(4), e(5), e(6), e(7)}, groupHopf(cyclic(31, 1))},
		{"g g of the skew one", skewHopf(31, 4, 1), []impl.Vector{e(2)}, []impl.Vector{e(0), e(2)}, two, true,
			[]impl.Vector{{0: 1, 2: 30}, {1: 1, 3: 30}, {4: 1, 6: 30}, {5: 1, 7: 30}}, w},
		{"x x of the line", lineHopf(5, 2), []impl.Vector{{2: 3}}, basisByHand(5), lineHopf(5, 2), true,
			[]impl.Vector{e(1), e(2), e(3), e(4)}, groupHopf(cyclic(5, 1))},
		{"g of bent", bentHopf(), []impl.Vector{e(1)}, []impl.Vector{e(0), e(1)}, groupHopf(cyclic(2, 2)), true,
			[]impl.Vector{{1, 1}, {2: 1, 3: 1}}, lineHopf(2, 1)},
		{"the group part of a tensor product", tensor, []impl.Vector{e(4)}, []impl.Vector{e(0), e(4)}, groupHopf(cyclic(3, 2)), true,
			[]impl.Vector{{0: 1, 4: 2}, {1: 1, 5: 2}, {2: 1, 6: 2}, {3: 1, 7: 2}}, sweedlerTables(3)},
		{"both group parts of a tensor product", tensor, []impl.Vector{e(5)}, []impl.Vector{e(0), e(5)}, groupHopf(cyclic(3, 2)), false, nil, impl.Hopf{}},
		{"nothing, with the Unit 3 e(0)", scaledHopf(), nil, []impl.Vector{e(0)}, scaledHopf(), true, nil, scaledHopf()},
		{"nothing of Sweedler's", w, nil, []impl.Vector{e(0)}, groupHopf(cyclic(31, 1)), true, nil, w},
	} {
		got, code := impl.GeneratedSub(c.h, c.list)
		checkSpace(t, c.name, got, code, c.generated)
		if sub, code := impl.SubHopf(c.h, c.generated); sub != c.sub || code != impl.ErrNone {
			t.Errorf("%s: the sub Hopf algebra is %v, %d, not %v", c.name, sub, code, c.sub)
		}
		yes, code := impl.IsNormalSub(c.h, c.generated)
		checkAnswer(t, c.name+" is normal", yes, code, c.normal)
		if !c.normal {
			continue
		}
		got, code = impl.IdealOfSub(c.h, c.generated)
		checkSpace(t, c.name+", the ideal", got, code, c.ideal)
		if quotient, code := impl.QuotientHopf(c.h, c.ideal); quotient != c.quotient || code != impl.ErrNone {
			t.Errorf("%s: the quotient is %v, %d, not %v", c.name, quotient, code, c.quotient)
		}
	}
}

// TestQuotientsChosen holds quotients by ideals that are none of normal sub Hopf algebras, and spaces
// that are no Hopf ideals, against what was found without the program.
func TestQuotientsChosen(t *testing.T) {
	w, double, two := sweedlerTables(31), doubleTables(31), groupHopf(cyclic(31, 2))
	six := dualHopfByHand(groupHopf(dihedral(31, 3)))
	e := unitVector
	for _, c := range []struct {
		name     string
		h        impl.Hopf
		list     []impl.Vector
		quotient impl.Hopf
	}{
		{"x and g x", w, []impl.Vector{{2: 5, 3: 6}, {2: 5, 3: 7}}, two},
		{"the augmentation ideal", w, []impl.Vector{e(2), {1, 30}, e(3)}, groupHopf(cyclic(31, 1))},
		{"y", double, []impl.Vector{e(4), e(5), e(6), e(7)}, w},
		{"x", double, []impl.Vector{e(2), e(3), e(6), e(7)}, w},
		{"x - y", double, []impl.Vector{{3: 1, 5: 30}, {2: 1, 4: 30}, e(7), e(6)}, w},
		{"x and y", double, basisByHand(8)[2:], two},
		{"functions that are 0 for 1 and a reflection", six, []impl.Vector{e(1), e(2), e(3), e(5)}, dualHopfByHand(two)},
		{"functions that are 0 for the turns", six, []impl.Vector{e(3), e(4), e(5)}, dualHopfByHand(groupHopf(cyclic(31, 3)))},
		{"nothing, with the Unit 3 e(0)", scaledHopf(), nil, scaledHopf()},
		{"x alone", w, []impl.Vector{e(2)}, impl.Hopf{}},
		{"g - 1 alone", w, []impl.Vector{{30, 1}}, impl.Hopf{}},
		{"g - 1 and x", w, []impl.Vector{{30, 1}, e(2)}, impl.Hopf{}},
		{"g + 1 and x - g x", w, []impl.Vector{{1, 1}, {2: 1, 3: 30}}, impl.Hopf{}},
		{"the Unit", w, []impl.Vector{e(0)}, impl.Hopf{}},
		{"all", w, basisByHand(4), impl.Hopf{}},
		{"all of size 1", scaledHopf(), []impl.Vector{{2}}, impl.Hopf{}},
		{"x y", double, []impl.Vector{e(6), e(7)}, impl.Hopf{}},
		{"functions that are 0 for no subgroup", six, []impl.Vector{e(2), e(3), e(5)}, impl.Hopf{}},
		{"functions that are not 0 for 1", six, []impl.Vector{e(0), e(1), e(2), e(3), e(5)}, impl.Hopf{}},
	} {
		want := int64(impl.ErrNone)
		if c.quotient == (impl.Hopf{}) {
			want = impl.ErrState
		}
		if got, code := impl.QuotientHopf(c.h, c.list); got != c.quotient || code != want {
			t.Errorf("%s: the quotient is %v, %d, not %v", c.name, got, code, c.quotient)
		}
		yes, code := impl.IsHopfIdeal(c.h, c.list)
		checkAnswer(t, c.name+" is a Hopf ideal", yes, code, want == impl.ErrNone)
	}
}

// TestNoSubsChosen holds spaces that are no sub Hopf algebras, or none that are normal.
func TestNoSubsChosen(t *testing.T) {
	w, five, line := sweedlerTables(31), groupHopf(cyclic(31, 5)), lineHopf(5, 0)
	three := groupHopf(cyclic(31, 3))
	e := unitVector
	for _, c := range []struct {
		name   string
		h      impl.Hopf
		list   []impl.Vector
		isSub  bool
		normal bool
	}{
		{"nothing", five, nil, false, false},
		{"0", five, []impl.Vector{{}}, false, false},
		{"no Unit", five, []impl.Vector{e(1), e(4)}, false, false},
		{"closed but for products", five, []impl.Vector{e(0), e(1), e(4)}, false, false},
		{"closed but for coproducts", three, []impl.Vector{e(0), {0, 1, 1}}, false, false},
		{"closed but for products, 1 and x", line, []impl.Vector{e(0), e(1)}, false, false},
		{"closed but for coproducts, 1 and x x x", line, []impl.Vector{e(0), e(3)}, false, false},
		{"closed but for left legs and S", w, []impl.Vector{e(0), e(2)}, false, false},
		{"closed but for right legs and S", w, []impl.Vector{e(0), e(3)}, false, false},
		{"not normal", w, []impl.Vector{e(0), e(1)}, true, false},
		{"not normal, and not reduced", w, []impl.Vector{{1, 1}, {}, {1, 30}, {1, 1}}, true, false},
		{"all", w, []impl.Vector{e(3), {2: 1, 3: 1}, {1, 1}, e(1)}, true, true},
		{"all of size 1", scaledHopf(), []impl.Vector{{30}, {1}}, true, true},
		{"nothing of size 1", scaledHopf(), []impl.Vector{{}}, false, false},
	} {
		s := hopfSample{c.name, c.h}
		checkSub(t, s, c.list, c.isSub)
		checkNormal(t, s, c.list, c.normal)
	}
}

func TestLegsChosen(t *testing.T) {
	w, line, f := sweedlerTables(31), lineHopf(5, 0), dualHopfByHand(groupHopf(cyclic(31, 3)))
	e := unitVector
	for _, c := range []struct {
		name string
		h    impl.Hopf
		v    impl.Vector
		legs []impl.Vector
	}{
		{"0", w, impl.Vector{}, nil},
		{"7", w, impl.Vector{7}, []impl.Vector{e(0)}},
		{"x", w, e(2), []impl.Vector{e(0), e(1), e(2)}},
		{"g x", w, e(3), []impl.Vector{e(0), e(1), e(3)}},
		{"x + g x", w, impl.Vector{2: 1, 3: 1}, []impl.Vector{e(0), e(1), e(2), e(3)}},
		{"x + 1 - g", w, impl.Vector{1, 30, 1}, []impl.Vector{e(0), e(1), e(2)}},
		{"x x", line, impl.Vector{2: 4}, []impl.Vector{e(0), e(1), e(2)}},
		{"a sum of group elements", groupHopf(dihedral(31, 3)), impl.Vector{1: 2, 5: 30}, []impl.Vector{e(1), e(5)}},
		{"a function of one element", f, e(2), []impl.Vector{e(0), e(1), e(2)}},
		{"the function 2", f, impl.Vector{2, 2, 2}, []impl.Vector{{1, 1, 1}}},
		{"5, with the Unit 3 e(0)", scaledHopf(), impl.Vector{5}, []impl.Vector{e(0)}},
	} {
		legs, code := impl.LegsOf(c.h, c.v)
		checkSpace(t, c.name, legs, code, c.legs)
	}
}

func TestAdjointChosen(t *testing.T) {
	w, six := hopfSample{"Sweedler's", sweedlerTables(31)}, hopfSample{"dihedral 3", groupHopf(dihedral(31, 3))}
	line := hopfSample{"line", lineHopf(5, 1)}
	e := unitVector
	for _, c := range []struct {
		s           hopfSample
		a, b        impl.Vector
		left, right impl.Vector
	}{
		{six, e(3), e(1), e(2), e(2)},
		{six, e(1), e(3), e(5), e(4)},
		{six, impl.Vector{1: 2, 3: 3}, impl.Vector{4: 5}, impl.Vector{3: 10, 5: 15}, impl.Vector{5: 25}},
		{w, e(2), e(1), impl.Vector{3: 29}, impl.Vector{2: 2}},
		{w, e(3), e(1), impl.Vector{3: 2}, impl.Vector{2: 2}},
		{w, e(1), e(2), impl.Vector{2: 30}, impl.Vector{2: 30}},
		{w, e(2), e(2), impl.Vector{}, impl.Vector{}},
		{w, e(2), e(0), impl.Vector{}, impl.Vector{}},
		{w, e(1), e(0), e(0), e(0)},
		{line, impl.Vector{2, 3, 4}, impl.Vector{0, 1, 3}, impl.Vector{0, 2, 1}, impl.Vector{0, 2, 1}},
	} {
		checkAdjoint(t, c.s, c.a, c.b, false, c.left)
		checkAdjoint(t, c.s, c.a, c.b, true, c.right)
	}
}

// checkInvalidSubs calls all functions of chapter 7 with a list, one of which is none for the other
// one; a vector of the list stands for the list where a vector is wanted.
func checkInvalidSubs(t *testing.T, name string, h impl.Hopf, list []impl.Vector) {
	t.Helper()
	check := func(function string, zero bool, code int64) {
		t.Helper()
		if !zero || code != impl.ErrInvalid {
			t.Errorf("%s, %v: %s returns the code %d, its results are zero values: %v", name, list, function, code, zero)
		}
	}
	yes, code := impl.IsSubHopf(h, list)
	check("IsSubHopf", !yes, code)
	space, code := impl.GeneratedSub(h, list)
	check("GeneratedSub", len(space) == 0, code)
	table, code := impl.SubHopf(h, list)
	check("SubHopf", table == impl.Hopf{}, code)
	yes, code = impl.IsHopfIdeal(h, list)
	check("IsHopfIdeal", !yes, code)
	table, code = impl.QuotientHopf(h, list)
	check("QuotientHopf", table == impl.Hopf{}, code)
	yes, code = impl.IsNormalSub(h, list)
	check("IsNormalSub", !yes, code)
	space, code = impl.IdealOfSub(h, list)
	check("IdealOfSub", len(space) == 0, code)
}

// checkInvalidVectorOfSubs does so with the functions that have a vector; the other one is 0.
func checkInvalidVectorOfSubs(t *testing.T, name string, h impl.Hopf, v impl.Vector) {
	t.Helper()
	if legs, code := impl.LegsOf(h, v); len(legs) != 0 || code != impl.ErrInvalid {
		t.Errorf("%s: the legs of %v are %v, %d", name, v, legs, code)
	}
	for _, right := range []bool{false, true} {
		if w, code := impl.AdjointAction(h, v, impl.Vector{}, right); w != (impl.Vector{}) || code != impl.ErrInvalid {
			t.Errorf("%s: %v acts as %v, %d", name, v, w, code)
		}
		if w, code := impl.AdjointAction(h, impl.Vector{}, v, right); w != (impl.Vector{}) || code != impl.ErrInvalid {
			t.Errorf("%s: %v is led to %v, %d", name, v, w, code)
		}
	}
}

// TestInvalidHopfOfSubs has tables that are no Hopf algebras, for each axiom that can fail first, with
// lists that would be sub Hopf algebras or ideals of most, and others.
func TestInvalidHopfOfSubs(t *testing.T) {
	t.Parallel()
	for _, b := range append(brokenShapes(), brokenAxioms()...) {
		for _, list := range [][]impl.Vector{nil, {{}}, {b.hopf.Unit}, {{1}}, {{0, 1}}, basisByHand(max(1, min(b.hopf.Size, 8)))} {
			checkInvalidSubs(t, b.name, b.hopf, list)
		}
		for _, v := range []impl.Vector{{}, {1}, b.hopf.Unit} {
			checkInvalidVectorOfSubs(t, b.name, b.hopf, v)
		}
		if list, code := impl.AugmentationIdeal(b.hopf); len(list) != 0 || code != impl.ErrInvalid {
			t.Errorf("%s: the augmentation ideal is %v, %d", b.name, list, code)
		}
	}
}

// TestInvalidVectorsOfSubs has vectors that are none, alone, at the end of lists that would be sub
// Hopf algebras or Hopf ideals, and ahead of what is none.
func TestInvalidVectorsOfSubs(t *testing.T) {
	t.Parallel()
	for _, c := range []struct {
		name    string
		h       impl.Hopf
		vectors []impl.Vector
	}{
		{"Sweedler's for 3", skewHopf(3, 2, 0), []impl.Vector{{3}, {4}, {255}, {0, 0, 0, 3}, {0, 0, 0, 0, 1}, {7: 1}}},
		{"cyclic 8 for 31", groupHopf(cyclic(31, 8)), []impl.Vector{{31}, {7: 31}, {7: 255}}},
		{"size 1 for 2", groupHopf(cyclic(2, 1)), []impl.Vector{{2}, {0, 1}, {7: 1}}},
	} {
		for _, v := range c.vectors {
			whole := basisByHand(c.h.Size)
			for _, list := range [][]impl.Vector{{v}, {{}, v}, {v, {}}, {c.h.Unit, v}, append(whole, v), append([]impl.Vector{v}, whole...)} {
				checkInvalidSubs(t, c.name, c.h, list)
			}
			checkInvalidVectorOfSubs(t, c.name, c.h, v)
		}
	}
}

// TestListsOfSubsAreNotChanged holds that lists, and the room behind them, stay as they are: those that
// are reduced and closed already among them, and such as are refused.
func TestListsOfSubsAreNotChanged(t *testing.T) {
	h := groupHopf(dihedral(5, 3))
	rest := slices.Repeat([]impl.Vector{{9, 9}}, 200)
	for _, list := range [][]impl.Vector{
		nil, {{}}, {{1}}, {{1}, {0, 1}, {0, 0, 1}}, {{2: 3}, {}, {2, 2, 2}, {2, 2, 2}}, {{1, 0, 4}, {0, 1, 4}, {3: 1, 5: 4}, {4: 1, 5: 4}},
		{{4: 3}}, basisByHand(6),
	} {
		room := slices.Concat(list, rest)
		for _, call := range []func(list []impl.Vector){
			func(list []impl.Vector) { impl.IsSubHopf(h, list) },
			func(list []impl.Vector) { impl.GeneratedSub(h, list) },
			func(list []impl.Vector) { impl.SubHopf(h, list) },
			func(list []impl.Vector) { impl.IsHopfIdeal(h, list) },
			func(list []impl.Vector) { impl.QuotientHopf(h, list) },
			func(list []impl.Vector) { impl.IsNormalSub(h, list) },
			func(list []impl.Vector) { impl.IdealOfSub(h, list) },
		} {
			call(room[:len(list)])
			if want := slices.Concat(list, rest); !slices.Equal(room, want) {
				t.Fatalf("the list %v is changed to %v", list, room)
			}
		}
	}
}

// TestListsOfSubsShareNoMemory changes what is returned, and holds that neither what was given nor what
// was returned by another call is changed with it.
func TestListsOfSubsShareNoMemory(t *testing.T) {
	h := groupHopf(dihedral(5, 3))
	turns := []impl.Vector{{1}, {0, 1}, {0, 0, 1}}
	for name, call := range map[string]func() ([]impl.Vector, int64){
		"LegsOf":            func() ([]impl.Vector, int64) { return impl.LegsOf(h, impl.Vector{1, 2, 3}) },
		"GeneratedSub":      func() ([]impl.Vector, int64) { return impl.GeneratedSub(h, turns) },
		"AugmentationIdeal": func() ([]impl.Vector, int64) { return impl.AugmentationIdeal(h) },
		"IdealOfSub":        func() ([]impl.Vector, int64) { return impl.IdealOfSub(h, turns) },
	} {
		first, _ := call()
		want := slices.Clone(first)
		second, code := call()
		if len(first) < 3 || !slices.Equal(first, second) || code != impl.ErrNone {
			t.Errorf("%s returns %v, and then %v, %d", name, first, second, code)
		}
		for i := range second {
			second[i] = impl.Vector{77}
		}
		_ = append(second, impl.Vector{77})
		if !slices.Equal(first, want) || !slices.Equal(turns, basisByHand(3)) {
			t.Errorf("%s: the lists are changed to %v and %v", name, first, turns)
		}
	}
}
