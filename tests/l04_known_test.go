package tests

import (
	"fmt"
	"math/rand"
	"slices"
	"strings"
	"testing"

	"loop.example/g01230/impl"
)

// allPrimes are the primes of the document.
var allPrimes = []int64{2, 3, 5, 7, 11, 13, 17, 19, 23, 29, 31}

// allNames are the names of the document in the order of their bytes.
var allNames = []string{
	"cyclic1", "cyclic2", "cyclic3", "cyclic4", "cyclic5", "cyclic6", "cyclic7", "cyclic8",
	"dihedral3", "dihedral4", "double", "klein", "line",
	"on-cyclic1", "on-cyclic2", "on-cyclic3", "on-cyclic4", "on-cyclic5", "on-cyclic6", "on-cyclic7", "on-cyclic8",
	"on-dihedral3", "on-dihedral4", "on-klein", "on-quaternion",
	"quaternion", "split", "sweedler",
}

// equalTables reports whether rows are equal.
func equalTables(table, other [][]int64) bool {
	return slices.EqualFunc(table, other, slices.Equal[[]int64])
}

// checkTable holds a result against the table wanted, which is a group table (promise 4), and
// holds that its rows share no memory. It overwrites the result.
func checkTable(t *testing.T, name string, got [][]int64, code int64, want [][]int64) {
	t.Helper()
	if !equalTables(got, want) || code != impl.ErrNone {
		t.Errorf("%s: %v, %d, not %v", name, got, code, want)
	}
	if !impl.IsGroupTable(got) {
		t.Errorf("%s: no group table: %v", name, got)
	}
	for i, row := range got {
		row = row[:cap(row)]
		for j := range row {
			row[j] = int64(i)
		}
	}
	for i, row := range got {
		if slices.ContainsFunc(row[:cap(row)], func(x int64) bool { return x != int64(i) }) {
			t.Errorf("%s: the row %d shares memory with another one", name, i)
		}
	}
}

// checkNoTable reports a result that is not an error with the code wanted.
func checkNoTable(t *testing.T, name string, got [][]int64, code, want int64) {
	t.Helper()
	if len(got) != 0 || code != want {
		t.Errorf("%s: %v, %d, not %d", name, got, code, want)
	}
}

func TestIsGroupTable(t *testing.T) {
	for _, s := range groupSamples() {
		if !impl.IsGroupTable(s.table) || !isGroupByHand(s.table) {
			t.Errorf("%s: no group table", s.name)
		}
	}
	for _, b := range brokenTables() {
		if impl.IsGroupTable(b.table) {
			t.Errorf("%s: a group table", b.name)
		}
	}
}

// TestIsGroupTableOfChangedTables changes each entry of each table. A group has each number once
// in each row, so that no table with one changed entry is one.
func TestIsGroupTableOfChangedTables(t *testing.T) {
	for _, s := range groupSamples() {
		n := int64(len(s.table))
		for i, row := range s.table {
			for j, right := range row {
				for x := int64(-1); x <= n; x++ {
					row[j] = x
					if got := impl.IsGroupTable(s.table); got != (x == right) {
						t.Errorf("%s with %d at %d, %d: %v", s.name, x, i, j, got)
					}
				}
				row[j] = right
			}
		}
	}
}

// tableAt returns the table of n whose entries are the digits of a place, but for those of the
// first rows and columns, as many as fixed tells, which are those of the cyclic table.
func tableAt(n, fixed, place int64) [][]int64 {
	table := cyclicRows(n)
	for i := fixed; i < n; i++ {
		for j := fixed; j < n; j++ {
			table[i][j] = place % n
			place /= n
		}
	}
	return table
}

// TestIsGroupTableOfAllSmall goes through all tables of sizes 1 to 3, and all of size 4 with 0 as
// unit.
func TestIsGroupTableOfAllSmall(t *testing.T) {
	for _, c := range []struct{ n, fixed, groups int64 }{{1, 0, 1}, {2, 0, 1}, {3, 0, 1}, {4, 1, 4}} {
		groups := int64(0)
		for place := range power(c.n, (c.n-c.fixed)*(c.n-c.fixed)) {
			table := tableAt(c.n, c.fixed, place)
			got := impl.IsGroupTable(table)
			if got != isGroupByHand(table) {
				t.Errorf("%v: %v", table, got)
			}
			if got {
				groups++
			}
		}
		if groups != c.groups {
			t.Errorf("%d group tables of size %d, not %d", groups, c.n, c.groups)
		}
	}
}

func TestIsAbelianTable(t *testing.T) {
	for _, s := range groupSamples() {
		if got, code := impl.IsAbelianTable(s.table); got != s.abelian || code != impl.ErrNone {
			t.Errorf("%s: %v, %d", s.name, got, code)
		}
	}
	for _, b := range brokenTables() {
		if got, code := impl.IsAbelianTable(b.table); got || code != impl.ErrInvalid {
			t.Errorf("%s: %v, %d", b.name, got, code)
		}
	}
}

func TestCyclicTable(t *testing.T) {
	for n := int64(1); n <= impl.MaxSize; n++ {
		got, code := impl.CyclicTable(n)
		checkTable(t, fmt.Sprint("cyclic ", n), got, code, cyclicRows(n))
	}
	got, code := impl.CyclicTable(3)
	checkTable(t, "cyclic 3", got, code, [][]int64{{0, 1, 2}, {1, 2, 0}, {2, 0, 1}})
	for _, n := range sizesThatAreNone {
		got, code := impl.CyclicTable(n)
		checkNoTable(t, fmt.Sprint("cyclic ", n), got, code, impl.ErrRange)
	}
}

func TestDihedralTable(t *testing.T) {
	got, code := impl.DihedralTable(3)
	checkTable(t, "dihedral 3", got, code, dihedralRows3())
	got, code = impl.DihedralTable(4)
	checkTable(t, "dihedral 4", got, code, dihedralRows4())
	for _, n := range append([]int64{1, 2, 5, 6, 7, 8, 256 + 3}, sizesThatAreNone...) {
		got, code := impl.DihedralTable(n)
		checkNoTable(t, fmt.Sprint("dihedral ", n), got, code, impl.ErrRange)
	}
}

func TestQuaternionTable(t *testing.T) {
	checkTable(t, "quaternion", impl.QuaternionTable(), impl.ErrNone, quaternionRows())
	// No call sees what was done with the result of an earlier one.
	checkTable(t, "quaternion again", impl.QuaternionTable(), impl.ErrNone, quaternionRows())
	table := impl.QuaternionTable()
	for _, c := range [][3]int64{{1, 1, 4}, {2, 2, 4}, {3, 3, 4}, {1, 2, 3}, {2, 3, 1}, {3, 1, 2}, {2, 1, 7}, {3, 2, 5}, {1, 3, 6}} {
		if got := table[c[0]][c[1]]; got != c[2] {
			t.Errorf("the product of %d and %d is %d, not %d", c[0], c[1], got, c[2])
		}
	}
}

// TestProductOfTables goes through all pairs of tables: those with the size 8, which is MaxSize,
// and those with 9, which exceeds it by one, are among them.
func TestProductOfTables(t *testing.T) {
	seen := map[int]int{}
	for _, s := range groupSamples() {
		for _, u := range groupSamples() {
			name := s.name + " by " + u.name
			got, code := impl.ProductOfTables(s.table, u.table)
			size := len(s.table) * len(u.table)
			seen[size]++
			if size > 8 {
				checkNoTable(t, name, got, code, impl.ErrLimit)
				continue
			}
			want := productRows(s.table, u.table)
			checkTable(t, name, got, code, want)
			if abelian, code := impl.IsAbelianTable(want); abelian != (s.abelian && u.abelian) || code != impl.ErrNone {
				t.Errorf("%s is abelian: %v, %d", name, abelian, code)
			}
		}
	}
	if seen[8] == 0 || seen[9] == 0 || seen[64] == 0 {
		t.Errorf("the sizes are %v", seen)
	}
}

func TestProductOfTablesChosen(t *testing.T) {
	got, code := impl.ProductOfTables(cyclicRows(2), cyclicRows(2))
	checkTable(t, "2 by 2", got, code, [][]int64{{0, 1, 2, 3}, {1, 0, 3, 2}, {2, 3, 0, 1}, {3, 2, 1, 0}})
	got, code = impl.ProductOfTables(cyclicRows(2), cyclicRows(3))
	checkTable(t, "2 by 3", got, code, [][]int64{
		{0, 1, 2, 3, 4, 5}, {1, 2, 0, 4, 5, 3}, {2, 0, 1, 5, 3, 4},
		{3, 4, 5, 0, 1, 2}, {4, 5, 3, 1, 2, 0}, {5, 3, 4, 2, 0, 1},
	})
	got, code = impl.ProductOfTables(cyclicRows(3), cyclicRows(2))
	checkTable(t, "3 by 2", got, code, [][]int64{
		{0, 1, 2, 3, 4, 5}, {1, 0, 3, 2, 5, 4}, {2, 3, 4, 5, 0, 1},
		{3, 2, 5, 4, 1, 0}, {4, 5, 0, 1, 2, 3}, {5, 4, 1, 0, 3, 2},
	})
}

func TestErrorsOfProductOfTables(t *testing.T) {
	for _, b := range brokenTables() {
		for _, other := range [][][]int64{cyclicRows(1), cyclicRows(2), cyclicRows(8), b.table} {
			got, code := impl.ProductOfTables(b.table, other)
			checkNoTable(t, b.name+" first", got, code, impl.ErrInvalid)
			got, code = impl.ProductOfTables(other, b.table)
			checkNoTable(t, b.name+" behind", got, code, impl.ErrInvalid)
		}
	}
}

func TestOrdersIn(t *testing.T) {
	for _, s := range groupSamples() {
		if got, code := impl.OrdersIn(s.table); !slices.Equal(got, s.orders) || code != impl.ErrNone {
			t.Errorf("%s: %v, %d, not %v", s.name, got, code, s.orders)
		}
	}
	for _, b := range brokenTables() {
		if got, code := impl.OrdersIn(b.table); len(got) != 0 || code != impl.ErrInvalid {
			t.Errorf("%s: %v, %d", b.name, got, code)
		}
	}
}

// TestTablesAreNotChanged gives tables with spare capacity to all functions that take one.
func TestTablesAreNotChanged(t *testing.T) {
	for _, s := range groupSamples() {
		n := len(s.table)
		table := slices.Grow(slices.Clone(s.table), 3)
		for i, row := range table {
			table[i] = slices.Concat(row, []int64{-5, -6})[:n]
		}
		product, _ := impl.ProductOfTables(table, cyclicRows(1))
		orders, _ := impl.OrdersIn(table)
		impl.IsGroupTable(table)
		impl.IsAbelianTable(table)
		impl.GroupHopf(7, table)
		impl.FunctionsHopf(7, table)
		for i := range product {
			product[i][0], orders[i] = -1, -1
		}
		if !equalTables(table, s.table) {
			t.Errorf("%s has become %v", s.name, table)
		}
		for _, row := range table {
			if !slices.Equal(row[n:n+2], []int64{-5, -6}) {
				t.Errorf("%s: the spare capacity has become %v", s.name, row[n:n+2])
			}
		}
		if table[:n+1][n] != nil {
			t.Errorf("%s: a row behind the table: %v", s.name, table[:n+1][n])
		}
	}
}

// TestGroupHopf holds promise 4 for group algebras, and what they are made of.
func TestGroupHopf(t *testing.T) {
	for _, p := range []int64{2, 3, 7, 31} {
		for _, s := range groupSamples() {
			name := fmt.Sprint("the group algebra of ", s.name, " for ", p)
			h, code := impl.GroupHopf(p, s.table)
			checkHopf(t, name, h, code)
			if want := groupHopf(algebraOfTable(p, s.table)); h != want {
				t.Errorf("%s: %v, not %v", name, h, want)
			}
		}
	}
}

func TestGroupHopfChosen(t *testing.T) {
	want := impl.Hopf{
		Prime: 31, Size: 3, Unit: impl.Vector{1}, Counit: impl.Vector{1, 1, 1},
		Mul: impl.Table{
			{{1}, {0, 1}, {0, 0, 1}},
			{{0, 1}, {0, 0, 1}, {1}},
			{{0, 0, 1}, {1}, {0, 1}},
		},
		Com:      impl.Table{{{1}}, {{}, {0, 1}}, {{}, {}, {0, 0, 1}}},
		Antipode: impl.Linear{{1}, {0, 0, 1}, {0, 1}},
	}
	if h, code := impl.GroupHopf(31, cyclicRows(3)); h != want || code != impl.ErrNone {
		t.Errorf("cyclic 3: %v, %d", h, code)
	}
	one := impl.Hopf{
		Prime: 2, Size: 1, Unit: impl.Vector{1}, Counit: impl.Vector{1},
		Mul: impl.Table{{{1}}}, Com: impl.Table{{{1}}}, Antipode: impl.Linear{{1}},
	}
	if h, code := impl.GroupHopf(2, cyclicRows(1)); h != one || code != impl.ErrNone {
		t.Errorf("cyclic 1: %v, %d", h, code)
	}
	h, code := impl.GroupHopf(3, quaternionRows())
	if h.Antipode[1] != unitVector(5) || h.Antipode[4] != unitVector(4) || h.Antipode[7] != unitVector(3) || code != impl.ErrNone {
		t.Errorf("quaternion: S is %v, %d", h.Antipode, code)
	}
}

// TestFunctionsHopf holds promise 4 for functions on groups, and what they are made of.
func TestFunctionsHopf(t *testing.T) {
	for _, p := range []int64{2, 3, 7, 31} {
		for _, s := range groupSamples() {
			name := fmt.Sprint("the functions on ", s.name, " for ", p)
			h, code := impl.FunctionsHopf(p, s.table)
			checkHopf(t, name, h, code)
			if want := dualHopfByHand(groupHopf(algebraOfTable(p, s.table))); h != want {
				t.Errorf("%s: %v, not %v", name, h, want)
			}
			group, _ := impl.GroupHopf(p, s.table)
			if dual, code := impl.DualHopf(group); dual != h || code != impl.ErrNone {
				t.Errorf("%s: the dual of the group algebra is %v, %d", name, dual, code)
			}
		}
	}
}

func TestFunctionsHopfChosen(t *testing.T) {
	want := impl.Hopf{
		Prime: 7, Size: 3, Unit: impl.Vector{1, 1, 1}, Counit: impl.Vector{1},
		Mul: impl.Table{{{1}}, {{}, {0, 1}}, {{}, {}, {0, 0, 1}}},
		Com: impl.Table{
			{{1}, {0, 0, 1}, {0, 1}},
			{{0, 1}, {1}, {0, 0, 1}},
			{{0, 0, 1}, {0, 1}, {1}},
		},
		Antipode: impl.Linear{{1}, {0, 0, 1}, {0, 1}},
	}
	if h, code := impl.FunctionsHopf(7, cyclicRows(3)); h != want || code != impl.ErrNone {
		t.Errorf("on cyclic 3: %v, %d", h, code)
	}
}

// TestErrorsOfGroups holds that primes are looked at before tables.
func TestErrorsOfGroups(t *testing.T) {
	check := func(name string, p int64, table [][]int64, want int64) {
		t.Helper()
		if h, code := impl.GroupHopf(p, table); h != (impl.Hopf{}) || code != want {
			t.Errorf("GroupHopf of %d, %s: %v, %d, not %d", p, name, h, code, want)
		}
		if h, code := impl.FunctionsHopf(p, table); h != (impl.Hopf{}) || code != want {
			t.Errorf("FunctionsHopf of %d, %s: %v, %d, not %d", p, name, h, code, want)
		}
	}
	for _, p := range numbersThatAreNoPrimes {
		check("cyclic 8", p, cyclicRows(8), impl.ErrRange)
		for _, b := range brokenTables() {
			check(b.name, p, b.table, impl.ErrRange)
		}
	}
	for _, p := range []int64{2, 31} {
		for _, b := range brokenTables() {
			check(b.name, p, b.table, impl.ErrInvalid)
		}
	}
}

// binomial returns how many ways there are to choose j of i.
func binomial(i, j int64) int64 {
	if j == 0 || j == i {
		return 1
	}
	return binomial(i-1, j-1) + binomial(i-1, j)
}

// binomialLine returns the line of p and k with the coproducts and S of powers as formulas.
func binomialLine(p, k int64) impl.Hopf {
	h := impl.Hopf{Prime: p, Size: p, Unit: impl.Vector{1}, Counit: impl.Vector{1}}
	for i := range p {
		h.Antipode[i][i] = signByHand(p, i)
		for j := range i + 1 {
			h.Com[i][j][i-j] = byte(binomial(i, j) % p)
		}
		for j := range p {
			if i+j < p {
				h.Mul[i][j][i+j] = 1
			} else {
				h.Mul[i][j][i+j-p+1] = byte(k)
			}
		}
	}
	return h
}

// TestLineHopf holds promise 4 for all lines, and what they are made of.
func TestLineHopf(t *testing.T) {
	for _, p := range []int64{2, 3, 5, 7} {
		for k := range p {
			name := fmt.Sprint("the line of ", p, " and ", k)
			h, code := impl.LineHopf(p, k)
			checkHopf(t, name, h, code)
			if want := binomialLine(p, k); h != want {
				t.Errorf("%s: %v, not %v", name, h, want)
			}
			a, _ := impl.AlgebraOf(h)
			if v, code := impl.PowerOf(a, impl.Vector{0, 1}, p); v != (impl.Vector{0, byte(k)}) || code != impl.ErrNone {
				t.Errorf("%s: x to the power %d is %v, %d", name, p, v, code)
			}
			c, _ := impl.CoalgebraOf(h)
			list, code := impl.PrimitiveSpace(c, impl.Vector{1}, impl.Vector{1})
			if !slices.Equal(list, []impl.Vector{{0, 1}}) || code != impl.ErrNone {
				t.Errorf("%s: primitive are %v, %d", name, list, code)
			}
		}
	}
}

func TestLineHopfChosen(t *testing.T) {
	want := impl.Hopf{
		Prime: 3, Size: 3, Unit: impl.Vector{1}, Counit: impl.Vector{1},
		Mul: impl.Table{
			{{1}, {0, 1}, {0, 0, 1}},
			{{0, 1}, {0, 0, 1}, {0, 2}},
			{{0, 0, 1}, {0, 2}, {0, 0, 2}},
		},
		Com:      impl.Table{{{1}}, {{0, 1}, {1}}, {{0, 0, 1}, {0, 2}, {1}}},
		Antipode: impl.Linear{{1}, {0, 2}, {0, 0, 1}},
	}
	if h, code := impl.LineHopf(3, 2); h != want || code != impl.ErrNone {
		t.Errorf("the line of 3 and 2: %v, %d", h, code)
	}
	two := impl.Hopf{
		Prime: 2, Size: 2, Unit: impl.Vector{1}, Counit: impl.Vector{1},
		Mul:      impl.Table{{{1}, {0, 1}}, {{0, 1}, {0, 1}}},
		Com:      impl.Table{{{1}}, {{0, 1}, {1}}},
		Antipode: impl.Linear{{1}, {0, 1}},
	}
	if h, code := impl.LineHopf(2, 1); h != two || code != impl.ErrNone {
		t.Errorf("the line of 2 and 1: %v, %d", h, code)
	}
}

func TestErrorsOfLineHopf(t *testing.T) {
	check := func(p, k int64) {
		t.Helper()
		if h, code := impl.LineHopf(p, k); h != (impl.Hopf{}) || code != impl.ErrRange {
			t.Errorf("the line of %d and %d: %v, %d", p, k, h, code)
		}
	}
	for _, p := range append([]int64{6, 8, 9, 11, 13, 29, 31}, numbersThatAreNoPrimes...) {
		for _, k := range []int64{-1, 0, 1, p - 1, p} {
			check(p, k)
		}
	}
	for _, p := range []int64{2, 3, 5, 7} {
		for _, k := range []int64{-1 << 63, -p, -1, p, p + 1, 256, 256 + 1, 1<<63 - 1} {
			check(p, k)
		}
	}
}

// sweedlerTables returns Sweedler's Hopf algebra written out: 1, g, x, g x.
func sweedlerTables(p int64) impl.Hopf {
	m := byte(p - 1)
	return impl.Hopf{
		Prime: p, Size: 4, Unit: impl.Vector{1}, Counit: impl.Vector{1, 1},
		Mul: impl.Table{
			{{1}, {0, 1}, {0, 0, 1}, {0, 0, 0, 1}},
			{{0, 1}, {1}, {0, 0, 0, 1}, {0, 0, 1}},
			{{0, 0, 1}, {0, 0, 0, m}},
			{{0, 0, 0, 1}, {0, 0, m}},
		},
		Com:      impl.Table{{{1}}, {{}, {0, 1}}, {{}, {0, 0, 1}, {1}}, {{0, 0, 0, 1}, {}, {}, {0, 1}}},
		Antipode: impl.Linear{{1}, {0, 1}, {0, 0, 0, m}, {0, 0, 1}},
	}
}

// TestSweedlerHopf holds promise 4 for Sweedler's Hopf algebras, and what they are made of.
func TestSweedlerHopf(t *testing.T) {
	for _, p := range allPrimes[1:] {
		h, code := impl.SweedlerHopf(p)
		checkHopf(t, fmt.Sprint("Sweedler's of ", p), h, code)
		if want := sweedlerTables(p); h != want {
			t.Errorf("Sweedler's of %d: %v, not %v", p, h, want)
		}
	}
}

// wordProduct returns what a word of the letters g, x and y stands for in the double one: letters
// are exchanged until they are in their order, and then pairs of the same letter are left out.
func wordProduct(p int64, word []byte) impl.Vector {
	exchanges := int64(0)
	for range word {
		for i := 1; i < len(word); i++ {
			if word[i-1] > word[i] {
				word[i-1], word[i] = word[i], word[i-1]
				exchanges++
			}
		}
	}
	text := strings.ReplaceAll(string(word), "gg", "")
	place := int64(0)
	for i, letter := range []string{"g", "x", "y"} {
		switch strings.Count(text, letter) {
		case 1:
			place += 1 << i
		case 2:
			return impl.Vector{}
		}
	}
	var v impl.Vector
	v[place] = signByHand(p, exchanges)
	return v
}

// doubleTables returns the double one written out, but for its products, which are those of words.
func doubleTables(p int64) impl.Hopf {
	m := byte(p - 1)
	h := impl.Hopf{
		Prime: p, Size: 8, Unit: impl.Vector{1}, Counit: impl.Vector{1, 1},
		Com: impl.Table{
			{{1}},
			{1: {1: 1}},
			{1: {2: 1}, 2: {0: 1}},
			{0: {3: 1}, 3: {1: 1}},
			{1: {4: 1}, 4: {0: 1}},
			{0: {5: 1}, 5: {1: 1}},
			{0: {6: 1}, 3: {4: m}, 5: {2: 1}, 6: {0: 1}},
			{1: {7: 1}, 2: {5: m}, 4: {3: 1}, 7: {1: 1}},
		},
		Antipode: impl.Linear{{1}, {1: 1}, {3: m}, {2: 1}, {5: m}, {4: 1}, {6: 1}, {7: 1}},
	}
	words := []string{"", "g", "x", "gx", "y", "gy", "xy", "gxy"}
	for i, first := range words {
		for j, second := range words {
			h.Mul[i][j] = wordProduct(p, []byte(first+second))
		}
	}
	return h
}

// TestDoubleHopf holds promise 4 for the double ones, and what they are made of.
func TestDoubleHopf(t *testing.T) {
	for _, p := range allPrimes[1:] {
		h, code := impl.DoubleHopf(p)
		checkHopf(t, fmt.Sprint("the double one of ", p), h, code)
		if want := doubleTables(p); h != want {
			t.Errorf("the double one of %d: %v, not %v", p, h, want)
		}
		// Sweedler's one is the part without y.
		s, _ := impl.SweedlerHopf(p)
		if yes, code := impl.IsHopfMap(s, h, identityByHand(4)); !yes || code != impl.ErrNone {
			t.Errorf("Sweedler's of %d is not in the double one: %d", p, code)
		}
	}
}

// basisByHand returns e(0) to e(n - 1).
func basisByHand(n int64) []impl.Vector {
	f := identityByHand(n)
	return f[:n]
}

// TestDoubleHopfRelations holds the products that the document tells of g, x and y.
func TestDoubleHopfRelations(t *testing.T) {
	h, _ := impl.DoubleHopf(31)
	one, g, x, y := unitVector(0), unitVector(1), unitVector(2), unitVector(4)
	for _, c := range []struct {
		name       string
		v, w, want impl.Vector
	}{
		{"g g", g, g, one},
		{"x x", x, x, impl.Vector{}},
		{"y y", y, y, impl.Vector{}},
		{"g x", g, x, unitVector(3)},
		{"x g", x, g, impl.Vector{3: 30}},
		{"g y", g, y, unitVector(5)},
		{"y g", y, g, impl.Vector{5: 30}},
		{"x y", x, y, unitVector(6)},
		{"y x", y, x, impl.Vector{6: 30}},
		{"g x y", unitVector(3), y, unitVector(7)},
		{"x y g", unitVector(6), g, unitVector(7)},
		{"y g x", y, unitVector(3), unitVector(7)},
	} {
		a, _ := impl.AlgebraOf(h)
		if got, code := impl.MultiplyVectors(a, c.v, c.w); got != c.want || code != impl.ErrNone {
			t.Errorf("%s: %v, %d, not %v", c.name, got, code, c.want)
		}
	}
}

func TestErrorsOfSweedlerAndDouble(t *testing.T) {
	for _, p := range append([]int64{2}, numbersThatAreNoPrimes...) {
		if h, code := impl.SweedlerHopf(p); h != (impl.Hopf{}) || code != impl.ErrRange {
			t.Errorf("Sweedler's of %d: %v, %d", p, h, code)
		}
		if h, code := impl.DoubleHopf(p); h != (impl.Hopf{}) || code != impl.ErrRange {
			t.Errorf("the double one of %d: %v, %d", p, h, code)
		}
	}
}

func TestKnownNames(t *testing.T) {
	for range 20 {
		names := impl.KnownNames()
		if !slices.Equal(names, allNames) || !slices.IsSorted(names) {
			t.Fatalf("the names are %q", names)
		}
		clear(names)
	}
}

// TestKnownHopf holds promise 4 for each name and each prime.
func TestKnownHopf(t *testing.T) {
	for _, p := range allPrimes {
		wanted := knownByHand(p)
		for _, name := range allNames {
			h, code := impl.KnownHopf(name, p)
			want, ok := wanted[name]
			if ok != hasPrime(name, p) {
				t.Errorf("%s of %d is wanted: %v", name, p, ok)
			}
			if !ok {
				if h != (impl.Hopf{}) || code != impl.ErrRange {
					t.Errorf("%s of %d: %v, %d", name, p, h, code)
				}
				continue
			}
			checkHopf(t, fmt.Sprint(name, " of ", p), h, code)
			if h != want {
				t.Errorf("%s of %d: %v, not %v", name, p, h, want)
			}
		}
	}
}

// TestKnownHopfFromItsParts holds known Hopf algebras against the functions that make them.
func TestKnownHopfFromItsParts(t *testing.T) {
	check := func(name string, p int64, want impl.Hopf, code int64) {
		t.Helper()
		if h, known := impl.KnownHopf(name, p); h != want || known != code {
			t.Errorf("%s of %d: %v, %d, not %v, %d", name, p, h, known, want, code)
		}
	}
	for _, p := range append(slices.Clone(numbersThatAreNoPrimes), 2, 3, 5, 7, 11, 31) {
		for _, s := range tableSamples() {
			h, code := impl.GroupHopf(p, s.table)
			check(s.name, p, h, code)
			h, code = impl.FunctionsHopf(p, s.table)
			check("on-"+s.name, p, h, code)
		}
		h, code := impl.LineHopf(p, 0)
		check("line", p, h, code)
		h, code = impl.LineHopf(p, 1)
		check("split", p, h, code)
		h, code = impl.SweedlerHopf(p)
		check("sweedler", p, h, code)
		h, code = impl.DoubleHopf(p)
		check("double", p, h, code)
	}
}

func TestErrorsOfKnownHopf(t *testing.T) {
	for _, p := range numbersThatAreNoPrimes {
		for _, name := range allNames {
			if h, code := impl.KnownHopf(name, p); h != (impl.Hopf{}) || code != impl.ErrRange {
				t.Errorf("%s of %d: %v, %d", name, p, h, code)
			}
		}
	}
	for _, name := range []string{
		"", "on-", "on", "-", "cyclic", "cyclic0", "cyclic9", "cyclic10", "cyclic01", "cyclic-1", "cyclic1 ", " cyclic1",
		"cyclic1\n", "cyclic1\x00", "Cyclic1", "KLEIN", "klein4", "dihedral", "dihedral2", "dihedral5", "quaternions",
		"on-line", "on-split", "on-sweedler", "on-double", "on-on-cyclic1", "cyclic1on-", "On-cyclic1", "on_cyclic1",
		"lines", "splitt", "sweedlers", "double2", "\xff", "on-\xff", strings.Repeat("on-", 1000) + "klein",
	} {
		for _, p := range append([]int64{2, 3, 31}, numbersThatAreNoPrimes...) {
			if h, code := impl.KnownHopf(name, p); h != (impl.Hopf{}) || code != impl.ErrNotFound {
				t.Errorf("%q of %d: %v, %d", name, p, h, code)
			}
		}
	}
}

// TestGroupLikesOfGroupAlgebras holds promise 13 as far as chapters 2 and 4 go: the group-like
// vectors of a group algebra are its basis.
func TestGroupLikesOfGroupAlgebras(t *testing.T) {
	for _, p := range []int64{2, 3, 7, 31} {
		seen := map[int64]int{}
		for _, s := range groupSamples() {
			name := fmt.Sprint("the group algebra of ", s.name, " for ", p)
			h, _ := impl.GroupHopf(p, s.table)
			c, code := impl.CoalgebraOf(h)
			if code != impl.ErrNone {
				t.Errorf("%s: CoalgebraOf returns the code %d", name, code)
			}
			list, code := impl.GroupLikes(c)
			seen[code]++
			want, wantCode := basisByHand(h.Size), int64(impl.ErrNone)
			slices.Reverse(want)
			if power(p, h.Size) > impl.MaxTried {
				want, wantCode = nil, impl.ErrLimit
			}
			if !slices.Equal(list, want) || code != wantCode {
				t.Errorf("%s: group-like are %v, %d", name, list, code)
			}
		}
		if seen[impl.ErrNone] == 0 {
			t.Errorf("no group-like vectors for %d: %v", p, seen)
		}
	}
}

// TestGroupLikesOneByOne asks also where there are too many vectors for GroupLikes.
func TestGroupLikesOneByOne(t *testing.T) {
	source := rand.New(rand.NewSource(7))
	for _, p := range []int64{2, 3, 7, 31} {
		for _, s := range groupSamples() {
			h, _ := impl.GroupHopf(p, s.table)
			c, _ := impl.CoalgebraOf(h)
			basis := basisByHand(h.Size)
			list := append(slices.Clone(basis), impl.Vector{})
			for _, v := range basis {
				other := basis[source.Intn(len(basis))]
				list = append(list, sumByHand(p, v, 1, other), randomVector(source, p, h.Size))
			}
			for _, v := range list {
				if got, code := impl.IsGroupLike(c, v); got != slices.Contains(basis, v) || code != impl.ErrNone {
					t.Errorf("%s for %d: %v is group-like: %v, %d", s.name, p, v, got, code)
				}
			}
		}
	}
}

// TestGroupsAndTheirProducts holds that the group-like vectors of a group algebra are multiplied as
// the table tells, with S as inverses.
func TestGroupsAndTheirProducts(t *testing.T) {
	for _, s := range groupSamples() {
		h, _ := impl.GroupHopf(31, s.table)
		a, _ := impl.AlgebraOf(h)
		for i, row := range s.table {
			for j, product := range row {
				v, code := impl.MultiplyVectors(a, unitVector(int64(i)), unitVector(int64(j)))
				if v != unitVector(product) || code != impl.ErrNone {
					t.Errorf("%s: the product of %d and %d is %v, %d", s.name, i, j, v, code)
				}
			}
			inverse, _ := impl.InverseOf(a, unitVector(int64(i)))
			if v, code := impl.AntipodeOf(h, unitVector(int64(i))); v != inverse || code != impl.ErrNone {
				t.Errorf("%s: S of %d is %v, %d, not %v", s.name, i, v, code, inverse)
			}
		}
	}
}

// TestGuaranteeOfKnown holds that functions are commutative and group algebras cocommutative, and
// that they are both exactly for abelian groups.
func TestGuaranteeOfKnown(t *testing.T) {
	for _, p := range []int64{2, 3, 7, 31} {
		for _, s := range groupSamples() {
			group, _ := impl.GroupHopf(p, s.table)
			functions, _ := impl.FunctionsHopf(p, s.table)
			for _, c := range []struct {
				name                       string
				h                          impl.Hopf
				commutative, cocommutative bool
			}{
				{"the group algebra of ", group, s.abelian, true},
				{"the functions on ", functions, true, s.abelian},
			} {
				checkCommutative(t, fmt.Sprint(c.name, s.name, " for ", p), c.h, c.commutative, c.cocommutative)
				// S leads each number to its inverse, which is the number itself for an order of 1 or 2.
				want := min(2, max(1, slices.Max(s.orders)-1))
				if order, code := impl.OrderOfAntipode(c.h); order != want || code != impl.ErrNone {
					t.Errorf("%s%s for %d: the order of S is %d, %d", c.name, s.name, p, order, code)
				}
			}
		}
	}
	for _, name := range []string{"line", "split"} {
		h, _ := impl.KnownHopf(name, 7)
		checkCommutative(t, name, h, true, true)
	}
	for _, name := range []string{"sweedler", "double"} {
		h, _ := impl.KnownHopf(name, 31)
		checkCommutative(t, name, h, false, false)
	}
}

// checkCommutative holds whether h is commutative and cocommutative against what is wanted.
func checkCommutative(t *testing.T, name string, h impl.Hopf, commutative, cocommutative bool) {
	t.Helper()
	a, _ := impl.AlgebraOf(h)
	c, _ := impl.CoalgebraOf(h)
	if got, code := impl.IsCommutative(a); got != commutative || code != impl.ErrNone {
		t.Errorf("%s is commutative: %v, %d", name, got, code)
	}
	if got, code := impl.IsCocommutative(c); got != cocommutative || code != impl.ErrNone {
		t.Errorf("%s is cocommutative: %v, %d", name, got, code)
	}
}
