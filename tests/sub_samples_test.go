package tests

import (
	"fmt"
	"slices"
	"strings"

	"loop.example/g01230/impl"
)

// spaceOf returns the reduced list of the space of a list of vectors (chapter 1).
func spaceOf(h impl.Hopf, list ...impl.Vector) []impl.Vector {
	reduced, _ := impl.ReduceVectors(h.Prime, h.Size, list)
	return reduced
}

// hasByHand reports whether the space of a list has all vectors of another list.
func hasByHand(h impl.Hopf, list, vectors []impl.Vector) bool {
	return len(spaceOf(h, slices.Concat(list, vectors)...)) == len(spaceOf(h, list...))
}

// legsByHand returns the rows and the columns of the coproducts of vectors.
func legsByHand(h impl.Hopf, list ...impl.Vector) []impl.Vector {
	var legs []impl.Vector
	for _, v := range list {
		m := coproductByHand(coalgebraPart(h), v)
		flip := flipByHand(m)
		legs = slices.Concat(legs, m[:], flip[:])
	}
	return legs
}

// productsByHand returns all products of a vector of the one list and a vector of the other one, in
// this order.
func productsByHand(h impl.Hopf, list, other []impl.Vector) []impl.Vector {
	var products []impl.Vector
	for _, v := range list {
		for _, w := range other {
			products = append(products, productByHand(algebraPart(h), v, w))
		}
	}
	return products
}

// antipodesByHand returns the images of vectors under S.
func antipodesByHand(h impl.Hopf, list []impl.Vector) []impl.Vector {
	var images []impl.Vector
	for _, v := range list {
		images = append(images, imageByHand(h.Prime, h.Antipode, v))
	}
	return images
}

// subFacts tells what a space has of a sub Hopf algebra.
type subFacts struct{ unit, products, legs, antipode bool }

// subFactsByHand looks at a space straight from the definition.
func subFactsByHand(h impl.Hopf, list []impl.Vector) subFacts {
	space := spaceOf(h, list...)
	return subFacts{
		hasByHand(h, space, []impl.Vector{h.Unit}),
		hasByHand(h, space, productsByHand(h, space, space)),
		hasByHand(h, space, legsByHand(h, space...)),
		hasByHand(h, space, antipodesByHand(h, space)),
	}
}

// isSub reports whether the space has all of these.
func (f subFacts) isSub() bool { return f == subFacts{true, true, true, true} }

// idealFacts tells what a space has of a Hopf ideal.
type idealFacts struct{ left, right, antipode, counit, coproducts bool }

// idealFactsByHand looks at a space straight from the definition.
func idealFactsByHand(h impl.Hopf, list []impl.Vector) idealFacts {
	space, whole := spaceOf(h, list...), basisByHand(h.Size)
	counit := func(v impl.Vector) bool { return counitByHand(coalgebraPart(h), v) != 0 }
	return idealFacts{
		hasByHand(h, space, productsByHand(h, whole, space)),
		hasByHand(h, space, productsByHand(h, space, whole)),
		hasByHand(h, space, antipodesByHand(h, space)),
		!slices.ContainsFunc(space, counit),
		hasCoproductsOfIdeal(h, space),
	}
}

// isIdeal reports whether the space has all of these.
func (f idealFacts) isIdeal() bool { return f == idealFacts{true, true, true, true, true} }

// hasCoproductsOfIdeal reports whether the coproduct of each vector of a reduced list is a sum of
// e(j) (x) v and v (x) e(j) for vectors v of the list, all of them as rows of one width.
func hasCoproductsOfIdeal(h impl.Hopf, space []impl.Vector) bool {
	var rows, coproducts [][]int64
	for _, v := range space {
		for _, e := range basisByHand(h.Size) {
			rows = append(rows, flatByHand(h, pairByHand(h.Prime, e, v)), flatByHand(h, pairByHand(h.Prime, v, e)))
		}
		coproducts = append(coproducts, flatByHand(h, coproductByHand(coalgebraPart(h), v)))
	}
	return rankByHand(h.Prime, rows) == rankByHand(h.Prime, slices.Concat(rows, coproducts))
}

// flatByHand returns the entries of a table of two vectors of a Hopf algebra.
func flatByHand(h impl.Hopf, m impl.Linear) []int64 {
	var row []int64
	for _, v := range m[:h.Size] {
		for _, x := range v[:h.Size] {
			row = append(row, int64(x))
		}
	}
	return row
}

// rankByHand returns the rank of rows of one width.
func rankByHand(p int64, rows [][]int64) int {
	rest := make([][]int64, len(rows))
	for i, row := range rows {
		rest[i] = slices.Clone(row)
	}
	rank := 0
	for place := 0; len(rest) > 0 && place < len(rest[0]); place++ {
		chosen := slices.IndexFunc(rest, func(row []int64) bool { return row[place] != 0 })
		if chosen < 0 {
			continue
		}
		first := rest[chosen]
		rest = slices.Delete(rest, chosen, chosen+1)
		rank++
		for _, row := range rest {
			entry := row[place]
			for k, x := range row {
				row[k] = (x*first[place] + (p-entry)*first[k]) % p
			}
		}
	}
	return rank
}

// adjointActionByHand returns the left adjoint action of a on b, or the right one, straight from the
// definition.
func adjointActionByHand(h impl.Hopf, a, b impl.Vector, right bool) impl.Vector {
	algebra, m := algebraPart(h), coproductByHand(coalgebraPart(h), a)
	var sum impl.Vector
	for j := range h.Size {
		for k := range h.Size {
			if m[j][k] == 0 {
				continue
			}
			first, second := unitVector(j), h.Antipode[k]
			if right {
				first, second = h.Antipode[j], unitVector(k)
			}
			sum = sumByHand(h.Prime, sum, int64(m[j][k]), productByHand(algebra, productByHand(algebra, first, b), second))
		}
	}
	return sum
}

// normalFacts tells which adjoint actions lead a space into itself.
type normalFacts struct{ left, right bool }

// normalFactsByHand looks at a space straight from the definition.
func normalFactsByHand(h impl.Hopf, list []impl.Vector) normalFacts {
	space := spaceOf(h, list...)
	var images [2][]impl.Vector
	for _, v := range space {
		for _, e := range basisByHand(h.Size) {
			images[0] = append(images[0], adjointActionByHand(h, e, v, false))
			images[1] = append(images[1], adjointActionByHand(h, e, v, true))
		}
	}
	return normalFacts{hasByHand(h, space, images[0]), hasByHand(h, space, images[1])}
}

// isNormalByHand reports whether a space is a normal sub Hopf algebra.
func isNormalByHand(h impl.Hopf, list []impl.Vector) bool {
	return subFactsByHand(h, list).isSub() && normalFactsByHand(h, list) == normalFacts{true, true}
}

// withoutCounitByHand returns vectors that span those of a space that have the Counit 0.
func withoutCounitByHand(h impl.Hopf, list []impl.Vector) []impl.Vector {
	var vectors []impl.Vector
	counit := func(v impl.Vector) int64 { return counitByHand(coalgebraPart(h), v) }
	for _, v := range list {
		if counit(v) == 0 {
			vectors = append(vectors, v)
		}
		for _, w := range list {
			vectors = append(vectors, sumByHand(h.Prime, timesByHand(h.Prime, counit(v), w), h.Prime-counit(w), v))
		}
	}
	return vectors
}

// idealOfSubByHand returns the reduced list of what all products e(i) v span, for v in the space of
// a list with the Counit 0.
func idealOfSubByHand(h impl.Hopf, list []impl.Vector) []impl.Vector {
	return spaceOf(h, productsByHand(h, basisByHand(h.Size), withoutCounitByHand(h, list))...)
}

// generatedByHand returns the reduced list of the sub Hopf algebra that is generated by a list: the
// subcoalgebras of its vectors, then what S leads them to, and then all products of these.
func generatedByHand(h impl.Hopf, list []impl.Vector) []impl.Vector {
	parts := []impl.Vector{h.Unit}
	for _, v := range list {
		least, _ := impl.LeastSubcoalgebra(coalgebraPart(h), v)
		parts = append(parts, least...)
	}
	for range h.Size {
		parts = spaceOf(h, slices.Concat(parts, antipodesByHand(h, parts))...)
	}
	words := parts
	for range h.Size {
		words = spaceOf(h, slices.Concat(words, productsByHand(h, words, parts))...)
	}
	return words
}

// annihilatorByHand returns the vectors of h for which all of a reduced list of the dual, as linear
// functions, have the value 0.
func annihilatorByHand(h impl.Hopf, reduced []impl.Vector) []impl.Vector {
	columns := flipByHand(projectionByHand(h.Prime, h.Size, reduced))
	return columns[:h.Size-int64(len(reduced))]
}

// allSpaces returns the reduced lists of all spaces of vectors for p and n.
func allSpaces(p, n int64) [][]impl.Vector {
	lists := [][]impl.Vector{nil}
	for place := n - 1; place >= 0; place-- {
		for _, list := range lists {
			_, others := placesByHand(n, list)
			others = slices.DeleteFunc(others, func(other int64) bool { return other <= place })
			for number := range power(p, int64(len(others))) {
				v := unitVector(place)
				for _, other := range others {
					v[other] = byte(number % p)
					number /= p
				}
				lists = append(lists, slices.Concat([]impl.Vector{v}, list))
			}
		}
	}
	return lists
}

// disguises returns lists that span the same as a reduced list: the list, the list that is not
// reduced, and one with vectors of zeros and the same vectors twice.
func disguises(p int64, list []impl.Vector) [][]impl.Vector {
	turned := slices.Clone(list)
	slices.Reverse(turned)
	for i := range turned {
		turned[i] = timesByHand(p, p-1, turned[i])
	}
	return [][]impl.Vector{list, turned, disguised(p, list), slices.Concat([]impl.Vector{{}}, list, list)}
}

// countedSample is a Hopf algebra with how many of its spaces are sub Hopf algebras, normal ones and
// Hopf ideals, or with zeros if this was not found without the program.
type countedSample struct {
	hopfSample
	subs, normal, ideals int
}

// smallSubSamples returns Hopf algebras for which all spaces are gone through.
func smallSubSamples() []countedSample {
	var list []countedSample
	// Of the dual, as many spaces are sub Hopf algebras as are Hopf ideals here, and the other way
	// round.
	add := func(name string, h impl.Hopf, subs, normal, ideals, normalInDual int) {
		name = fmt.Sprint(name, " of ", h.Size, " for ", h.Prime)
		dual := hopfSample{"the dual of " + name, dualHopfByHand(h)}
		list = append(list, countedSample{hopfSample{name, h}, subs, normal, ideals},
			countedSample{dual, ideals, normalInDual, subs})
	}
	for _, p := range []int64{2, 3} {
		add("cyclic", groupHopf(cyclic(p, 1)), 1, 1, 1, 1)
		add("cyclic", groupHopf(cyclic(p, 2)), 2, 2, 2, 2)
		add("cyclic", groupHopf(cyclic(p, 3)), 2, 2, 2, 2)
		add("cyclic", groupHopf(cyclic(p, 4)), 3, 3, 3, 3)
		add("klein", groupHopf(klein(p)), 5, 5, 5, 5)
		add("slanted klein", slantedHopf(groupHopf(klein(p))), 5, 5, 5, 5)
		add("line", lineHopf(p, 0), 2, 2, 2, 2)
		add("split line", lineHopf(p, 1), 2, 2, 2, 2)
	}
	add("dihedral", groupHopf(dihedral(2, 3)), 6, 3, 3, 3)
	add("skew", skewHopf(2, 2, 0), 0, 0, 0, 0)
	add("bent", bentHopf(), 0, 0, 0, 0)
	add("slanted bent", slantedHopf(bentHopf()), 0, 0, 0, 0)
	add("Sweedler's", skewHopf(3, 2, 0), 3, 2, 3, 2)
	add("slanted Sweedler's", slantedHopf(skewHopf(3, 2, 0)), 3, 2, 3, 2)
	add("cyclic", groupHopf(cyclic(31, 2)), 2, 2, 2, 2)
	return list
}

// subSamples returns Hopf algebras of all sizes, tensor products and duals among them.
func subSamples() []hopfSample {
	list := hopfSamples()
	for _, s := range tensorSamples() {
		if s.first.hopf.Size > 1 && s.second.hopf.Size > 2 && s.first.hopf.Prime <= 3 {
			name := fmt.Sprint(s.first.name, " with ", s.second.name, " for ", s.first.hopf.Prime)
			list = append(list, hopfSample{name, tensorByHand(s.first.hopf, s.second.hopf)})
		}
	}
	found := map[impl.Hopf]bool{}
	return slices.DeleteFunc(list, func(s hopfSample) bool {
		// Great ones for 5 take much time, and are there for 3 and 31, too.
		left := !found[s.hopf] && (s.hopf.Prime != 5 || s.hopf.Size <= 5)
		found[s.hopf] = true
		return !left
	})
}

// seedsOf returns lists of few vectors of a sample, which generate sub Hopf algebras of several sizes.
func seedsOf(s hopfSample) [][]impl.Vector {
	h := s.hopf
	element, _ := impl.ModularElement(h)
	integral, _ := impl.LeftIntegral(h)
	lists := [][]impl.Vector{nil, {{}}, {timesByHand(h.Prime, h.Prime-1, h.Unit)}, {element}, {integral}}
	basis := basisByHand(h.Size)
	if strings.Contains(s.name, "slanted") {
		for i, e := range basis {
			basis[i] = toSlanted(h.Prime, h.Size, e)
		}
	}
	for i, e := range basis {
		lists = append(lists, []impl.Vector{e})
		if last := basis[h.Size-1]; e != last {
			lists = append(lists, []impl.Vector{sumByHand(h.Prime, e, h.Prime-1, last)})
		}
		if i > 1 {
			lists = append(lists, []impl.Vector{e, sumByHand(h.Prime, e, 1, basis[i/2])})
		}
	}
	vectors := someVectors(h.Prime, h.Size)
	return append(lists, vectors[len(vectors)-1:])
}

// distinctSpaces returns the reduced lists of lists of vectors, each once.
func distinctSpaces(h impl.Hopf, lists [][]impl.Vector) [][]impl.Vector {
	var spaces [][]impl.Vector
	found := map[string]bool{}
	for _, list := range lists {
		space := spaceOf(h, list...)
		if key := fmt.Sprint(space); !found[key] {
			found[key] = true
			spaces = append(spaces, space)
		}
	}
	return spaces
}

// spacesOf returns spaces of a sample: sub Hopf algebras, what Hopf ideals are told of by the sub
// Hopf algebras of the dual, and others.
func spacesOf(s hopfSample) [][]impl.Vector {
	h := s.hopf
	whole := basisByHand(h.Size)
	seeds := seedsOf(s)
	lists := append(seeds, whole, whole[1:], whole[:h.Size-1], spaceOf(h, legsByHand(h, whole[h.Size-1])...))
	for _, seed := range seeds {
		sub := generatedByHand(h, seed)
		lists = append(lists, sub, idealOfSubByHand(h, sub), withoutCounitByHand(h, sub))
	}
	dual := hopfSample{s.name, dualHopfByHand(h)}
	for _, seed := range seedsOf(dual) {
		lists = append(lists, annihilatorByHand(h, generatedByHand(dual.hopf, seed)))
	}
	return distinctSpaces(h, lists)
}
