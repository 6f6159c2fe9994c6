package impl

import (
	"slices"
	"strconv"
	"strings"
)

// Vector is described in chapter 1.
type Vector [8]byte

// Linear is described in chapter 1.
type Linear [8]Vector

// Table is described in chapter 1.
type Table [8]Linear

// Error codes of all chapters.
const (
	ErrNone = iota
	ErrInvalid
	ErrRange
	ErrLimit
	ErrNotFound
	ErrState
	ErrSyntax
)

// Limits of chapter 1.
const (
	MaxSize  = 8
	MaxPrime = 31
)

// maxFactors is the greatest number of factors of a power.
const maxFactors = 100

// Algebra is described in chapter 1.
type Algebra struct {
	Prime int64
	Size  int64
	Unit  Vector
	Mul   Table
}

// IsPrime reports whether p is a prime.
func IsPrime(p int64) bool {
	if p < 2 || p > MaxPrime {
		return false
	}
	for d := int64(2); d < p; d++ {
		if p%d == 0 {
			return false
		}
	}
	return true
}

// isField reports whether p is a prime and n a size.
func isField(p int64, n int64) bool {
	return IsPrime(p) && n >= 1 && n <= MaxSize
}

// IsVector reports whether p is a prime, n is in 1..MaxSize, and v is a vector for them.
func IsVector(p int64, n int64, v Vector) bool {
	if !isField(p, n) {
		return false
	}
	for i, x := range v {
		if int64(x) >= p || int64(i) >= n && x != 0 {
			return false
		}
	}
	return true
}

// areVectors reports whether p is a prime, n a size, and all of a list are vectors for them.
func areVectors(p int64, n int64, list []Vector) bool {
	for _, v := range list {
		if !IsVector(p, n, v) {
			return false
		}
	}
	return isField(p, n)
}

// isLinear reports whether f is a linear map for p and n.
func isLinear(p int64, n int64, f Linear) bool {
	return isField(p, n) && hasImages(p, n, n, f)
}

// hasImages reports whether the first images of f, as many as count tells, are vectors for p and
// n, and all others are vectors of zeros.
func hasImages(p int64, n int64, count int64, f Linear) bool {
	for i, v := range f {
		if int64(i) < count && !IsVector(p, n, v) || int64(i) >= count && v != (Vector{}) {
			return false
		}
	}
	return true
}

// isTable reports whether t is a table for p and n.
func isTable(p int64, n int64, t Table) bool {
	return isField(p, n) && hasMaps(p, n, n, t)
}

// hasMaps reports whether the first of t, as many as count tells, are linear maps for p and n, and
// all others are of zeros.
func hasMaps(p int64, n int64, count int64, t Table) bool {
	for i, f := range t {
		if int64(i) < count && !isLinear(p, n, f) || int64(i) >= count && f != (Linear{}) {
			return false
		}
	}
	return true
}

// isShapedAlgebra reports whether a has the form of an algebra, whatever axioms it fulfils.
func isShapedAlgebra(a Algebra) bool {
	return IsVector(a.Prime, a.Size, a.Unit) && isTable(a.Prime, a.Size, a.Mul)
}

// IsAlgebra reports whether a is an algebra.
func IsAlgebra(a Algebra) bool {
	return isShapedAlgebra(a) && hasUnit(a) && findFault(a) == nil
}

// hasUnit reports whether the Unit of a shaped a is a unit on both sides.
func hasUnit(a Algebra) bool {
	for i := range a.Size {
		e := basisVector(i)
		if multiply(a, a.Unit, e) != e || multiply(a, e, a.Unit) != e {
			return false
		}
	}
	return true
}

// areAlgebras reports whether all of a list are algebras. Equal ones are checked only once, since
// the check of the axioms takes most of the time of a call.
func areAlgebras(list ...Algebra) bool {
	checked := map[Algebra]bool{}
	for _, a := range list {
		if checked[a] {
			continue
		}
		if !IsAlgebra(a) {
			return false
		}
		checked[a] = true
	}
	return true
}

// isAlgebraWith reports whether a is an algebra and all of a list are vectors for it.
func isAlgebraWith(a Algebra, list ...Vector) bool {
	return areVectors(a.Prime, a.Size, list) && IsAlgebra(a)
}

// findFault returns the first {i, j, k} at which a shaped a is not associative, or nil.
func findFault(a Algebra) []int64 {
	for i := range a.Size {
		for j := range a.Size {
			for k := range a.Size {
				left := multiply(a, a.Mul[i][j], basisVector(k))
				right := multiply(a, basisVector(i), a.Mul[j][k])
				if left != right {
					return []int64{i, j, k}
				}
			}
		}
	}
	return nil
}

// FirstFault returns the first list {i, j, k}, in lexicographic order, for which (e(i) e(j)) e(k)
// is not e(i) (e(j) e(k)), and ErrNone. Errors: ErrInvalid if Prime, Size, Unit and Mul are not as
// told for algebras, but for associativity and the unit; ErrNotFound if there is none.
func FirstFault(a Algebra) ([]int64, int64) {
	if !isShapedAlgebra(a) {
		return nil, ErrInvalid
	}
	fault := findFault(a)
	if fault == nil {
		return nil, ErrNotFound
	}
	return fault, ErrNone
}

// basisVector returns e(i).
func basisVector(i int64) Vector {
	var e Vector
	e[i] = 1
	return e
}

// timesNumber returns x y modulo p.
func timesNumber(p int64, x byte, y byte) byte {
	return byte(int64(x) * int64(y) % p)
}

// inverseNumber returns the y for which x y is 1 modulo p, for x other than 0.
func inverseNumber(p int64, x byte) byte {
	y := byte(1)
	for timesNumber(p, x, y) != 1 {
		y++
	}
	return y
}

// negativeNumber returns -x modulo p.
func negativeNumber(p int64, x byte) byte {
	return byte((p - int64(x)) % p)
}

// addMultiple adds c times the row w to the row v of the same width.
func addMultiple(p int64, v []byte, c byte, w []byte) {
	if c == 0 {
		return
	}
	for i, x := range w {
		v[i] = byte((int64(v[i]) + int64(c)*int64(x)) % p)
	}
}

// scaleRow multiplies a row by c.
func scaleRow(p int64, row []byte, c byte) {
	for i, x := range row {
		row[i] = timesNumber(p, c, x)
	}
}

// multiply returns the product of v and w in a shaped a.
func multiply(a Algebra, v Vector, w Vector) Vector {
	var sum Vector
	for i := range a.Size {
		// All checks of axioms come through here, mostly with many zeros.
		if v[i] == 0 {
			continue
		}
		for j := range a.Size {
			addMultiple(a.Prime, sum[:], timesNumber(a.Prime, v[i], w[j]), a.Mul[i][j][:])
		}
	}
	return sum
}

// MultiplyVectors returns the product of v and w, and ErrNone.
func MultiplyVectors(a Algebra, v Vector, w Vector) (Vector, int64) {
	if !isAlgebraWith(a, v, w) {
		return Vector{}, ErrInvalid
	}
	return multiply(a, v, w), ErrNone
}

// PowerOf returns the power of v with k factors, for k in 0..100, and ErrNone.
func PowerOf(a Algebra, v Vector, k int64) (Vector, int64) {
	if !isAlgebraWith(a, v) {
		return Vector{}, ErrInvalid
	}
	if k < 0 || k > maxFactors {
		return Vector{}, ErrRange
	}
	power := a.Unit
	for range k {
		power = multiply(a, power, v)
	}
	return power, ErrNone
}

// InverseOf returns the inverse of v, and ErrNone. Errors: ErrNotFound if there is none.
func InverseOf(a Algebra, v Vector) (Vector, int64) {
	if !isAlgebraWith(a, v) {
		return Vector{}, ErrInvalid
	}
	// The left table has an inverse exactly if v has one, which then is an inverse on both sides,
	// because a has finitely many basis elements.
	back, ok := inverseLinear(a.Prime, a.Size, leftTable(a, v))
	if !ok {
		return Vector{}, ErrNotFound
	}
	return applyLinear(a.Prime, back, a.Unit), ErrNone
}

// applyLinear returns the image of v under f.
func applyLinear(p int64, f Linear, v Vector) Vector {
	var sum Vector
	for i, c := range v {
		addMultiple(p, sum[:], c, f[i][:])
	}
	return sum
}

// composeLinear returns the linear map that applies g, and then f.
func composeLinear(p int64, f Linear, g Linear) Linear {
	var both Linear
	for i, v := range g {
		both[i] = applyLinear(p, f, v)
	}
	return both
}

// identityLinear returns the linear map that leads each vector of size n to itself.
func identityLinear(n int64) Linear {
	var f Linear
	for i := range n {
		f[i] = basisVector(i)
	}
	return f
}

// inverseLinear returns the inverse of a linear map for p and n, and true, or false if there is
// none.
func inverseLinear(p int64, n int64, f Linear) (Linear, bool) {
	var images [][]byte
	for _, v := range f[:n] {
		images = append(images, slices.Clone(v[:]))
	}
	var inverse Linear
	for i, row := range reduceMarked(p, images) {
		if Vector(row[:MaxSize]) != basisVector(int64(i)) {
			return Linear{}, false
		}
		inverse[i] = Vector(row[MaxSize:])
	}
	return inverse, true
}

// kernelOf returns the reduced list of the vectors that are led to 0, for the images of the basis
// as rows of one width.
func kernelOf(p int64, images [][]byte) []Vector {
	var kernel []Vector
	for _, row := range reduceMarked(p, images) {
		image := row[:len(row)-MaxSize]
		if !slices.ContainsFunc(image, isNonzero) {
			kernel = append(kernel, Vector(row[len(image):]))
		}
	}
	return kernel
}

// isNonzero reports whether x is not 0.
func isNonzero(x byte) bool { return x != 0 }

// reduceMarked returns the reduced list of the rows, each of which has its own e(i) behind it, so
// that the ends tell which combinations of the given rows have become the beginnings.
func reduceMarked(p int64, rows [][]byte) [][]byte {
	marked := make([][]byte, len(rows))
	for i, row := range rows {
		mark := basisVector(int64(i))
		marked[i] = slices.Concat(row, mark[:])
	}
	return reduceRows(p, marked)
}

// reduceRows returns the reduced list of the space that rows of one width span. It changes the
// rows.
func reduceRows(p int64, rows [][]byte) [][]byte {
	rank := 0
	for place := 0; rank < len(rows) && place < len(rows[0]); place++ {
		if !raiseRow(rows[rank:], place) {
			continue
		}
		clearPlace(p, rows, rank, place)
		rank++
	}
	return rows[:rank]
}

// clearPlace makes the entry at a place 1 in the row chosen, where it is not 0, and 0 in all others.
func clearPlace(p int64, rows [][]byte, chosen int, place int) {
	first := rows[chosen]
	scaleRow(p, first, inverseNumber(p, first[place]))
	for i, row := range rows {
		if i != chosen {
			addMultiple(p, row, negativeNumber(p, row[place]), first)
		}
	}
}

// raiseRow exchanges the first row with the first one that is not 0 at a place, and reports
// whether there is one.
func raiseRow(rows [][]byte, place int) bool {
	for i, row := range rows {
		if row[place] != 0 {
			rows[0], rows[i] = row, rows[0]
			return true
		}
	}
	return false
}

// CentreOf returns the reduced list of the centre, and ErrNone.
func CentreOf(a Algebra) ([]Vector, int64) {
	if !IsAlgebra(a) {
		return nil, ErrInvalid
	}
	var commutators [][]byte
	for i := range a.Size {
		var row []byte
		for j := range a.Size {
			difference := a.Mul[i][j]
			addMultiple(a.Prime, difference[:], negativeNumber(a.Prime, 1), a.Mul[j][i][:])
			row = append(row, difference[:]...)
		}
		commutators = append(commutators, row)
	}
	return kernelOf(a.Prime, commutators), ErrNone
}

// IsCommutative reports whether all vectors commute, and returns ErrNone.
func IsCommutative(a Algebra) (bool, int64) {
	if !IsAlgebra(a) {
		return false, ErrInvalid
	}
	return opposite(a) == a, ErrNone
}

// leftTable returns the left table of v in an algebra.
func leftTable(a Algebra, v Vector) Linear {
	var f Linear
	for i := range a.Size {
		f[i] = multiply(a, v, basisVector(i))
	}
	return f
}

// LeftTable returns the left table of v, and ErrNone.
func LeftTable(a Algebra, v Vector) (Linear, int64) {
	if !isAlgebraWith(a, v) {
		return Linear{}, ErrInvalid
	}
	return leftTable(a, v), ErrNone
}

// trace returns the sum of the entries i of the images of e(i).
func trace(p int64, f Linear) int64 {
	sum := int64(0)
	for i, image := range f {
		sum += int64(image[i])
	}
	return sum % p
}

// TraceOf returns the trace of the left table of v, and ErrNone.
func TraceOf(a Algebra, v Vector) (int64, int64) {
	if !isAlgebraWith(a, v) {
		return 0, ErrInvalid
	}
	return trace(a.Prime, leftTable(a, v)), ErrNone
}

// opposite returns the opposite of an algebra.
func opposite(a Algebra) Algebra {
	turned := a
	for i := range a.Size {
		for j := range a.Size {
			turned.Mul[i][j] = a.Mul[j][i]
		}
	}
	return turned
}

// OppositeAlgebra returns the opposite algebra, and ErrNone.
func OppositeAlgebra(a Algebra) (Algebra, int64) {
	if !IsAlgebra(a) {
		return Algebra{}, ErrInvalid
	}
	return opposite(a), ErrNone
}

// ProductAlgebra returns the product of a and b, and ErrNone. Errors: ErrLimit if the Sizes
// together are greater than MaxSize.
func ProductAlgebra(a Algebra, b Algebra) (Algebra, int64) {
	switch {
	case !areAlgebras(a, b):
		return Algebra{}, ErrInvalid
	case a.Prime != b.Prime:
		return Algebra{}, ErrRange
	case a.Size+b.Size > MaxSize:
		return Algebra{}, ErrLimit
	}
	product := a
	product.Size += b.Size
	copy(product.Unit[a.Size:], b.Unit[:b.Size])
	for i := range b.Size {
		for j := range b.Size {
			copy(product.Mul[a.Size+i][a.Size+j][a.Size:], b.Mul[i][j][:b.Size])
		}
	}
	return product, ErrNone
}

// ReduceVectors returns the reduced list of the space that vectors for p and n span, and ErrNone.
// Errors: ErrInvalid if p and n are not as told, or one of them is no vector.
func ReduceVectors(p int64, n int64, list []Vector) ([]Vector, int64) {
	if !areVectors(p, n, list) {
		return nil, ErrInvalid
	}
	return reduceVectors(p, list), ErrNone
}

// reduceVectors returns the reduced list of the space that vectors span.
func reduceVectors(p int64, list []Vector) []Vector {
	rows := make([][]byte, len(list))
	for i, v := range list {
		rows[i] = slices.Clone(v[:])
	}
	var reduced []Vector
	for _, row := range reduceRows(p, rows) {
		reduced = append(reduced, Vector(row))
	}
	return reduced
}

// VectorText returns the text of a vector for p and n, and ErrNone.
func VectorText(p int64, n int64, v Vector) (string, int64) {
	if !IsVector(p, n, v) {
		return "", ErrInvalid
	}
	words := make([]string, n)
	for i := range words {
		words[i] = strconv.Itoa(int(v[i]))
	}
	return strings.Join(words, ","), ErrNone
}

// ParseVector returns the vector for p and n with a text, and ErrNone. Errors: ErrInvalid if p and
// n are not as told; ErrSyntax if there is none.
func ParseVector(p int64, n int64, text string) (Vector, int64) {
	if !isField(p, n) {
		return Vector{}, ErrInvalid
	}
	words := strings.Split(text, ",")
	if int64(len(words)) != n {
		return Vector{}, ErrSyntax
	}
	var v Vector
	for i, word := range words {
		x, ok := parseNumber(p, word)
		if !ok {
			return Vector{}, ErrSyntax
		}
		v[i] = x
	}
	return v, ErrNone
}

// parseNumber returns the number modulo p that is written as a word, and true, or false if there
// is none.
func parseNumber(p int64, word string) (byte, bool) {
	x, err := strconv.ParseInt(word, 10, 64)
	// A word that is not written again is one with a sign or with superfluous leading zeros.
	if err != nil || x < 0 || x >= p || strconv.FormatInt(x, 10) != word {
		return 0, false
	}
	return byte(x), true
}
