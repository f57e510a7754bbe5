package tests

import (
	"math"
	"reflect"
	"slices"
	"sync"
	"testing"

	"loop.example/g01132/impl"
)

var inverses = sync.OnceValue(inverseTable)

var primitive = sync.OnceValue(primitiveByCounting)

// rootOf has a root of unity by repeated products, and 1 for an order that no number has.
func rootOf(order int64) int64 {
	if units%order != 0 {
		return 1
	}
	root := int64(1)
	for range units / order {
		root = remainderOf(root * primitive())
	}
	return root
}

// selfDualCube makes the cube of three self-dual labels with the numbers N(1, 1, 1), N(1, 1, 2),
// N(1, 2, 2) and N(2, 2, 2).
func selfDualCube(a, b, c, d int64) impl.Ring {
	return cubeOf(3, func(i, j, k int) int64 {
		if i*j*k == 0 {
			return truth(i+j+k == 2*max(i, j, k))
		}
		return []int64{a, b, c, d}[i+j+k-3]
	})
}

// doubled is a ring for which two of the three characters would be equal, so that it is not split
// and has a codegree 0.
var doubled = selfDualCube(8, 16, 69, 279)

func dualsIn(r impl.Ring) []int64 {
	duals := []int64{}
	for i := range r.Table {
		duals = append(duals, int64(partnersOf(r, i)[0]))
	}
	return duals
}

func commutes(r impl.Ring) bool {
	for i := range r.Table {
		for j := range r.Table {
			if !slices.Equal(r.Table[i][j], r.Table[j][i]) {
				return false
			}
		}
	}
	return true
}

// sumOf is the sum of the products of numbers with the same indices.
func sumOf(x, y []int64) int64 {
	sum := int64(0)
	for i := range x {
		sum = remainderOf(sum + x[i]*y[i])
	}
	return sum
}

// takeNumbers has the numbers of a list at some places.
func takeNumbers(x []int64, places []int64) []int64 {
	taken := []int64{}
	for _, place := range places {
		taken = append(taken, x[place])
	}
	return taken
}

func sumOfLists(x, y []int64) []int64 {
	sum := []int64{}
	for i := range x {
		sum = append(sum, remainderOf(x[i]+y[i]))
	}
	return sum
}

// hasCharacter tells whether a list of numbers is a character, as the document tells it.
func hasCharacter(r impl.Ring, x []int64) bool {
	for i := range r.Table {
		for j := range r.Table {
			if remainderOf(x[i]*x[j]) != sumOf(r.Table[i][j], x) {
				return false
			}
		}
	}
	return x[0] == 1
}

func pairingIn(r impl.Ring, x, y []int64) int64 { return sumOf(x, takeNumbers(y, dualsIn(r))) }

// remainderProduct is the product of vectors of numbers, with remainders.
func remainderProduct(r impl.Ring, x, y []int64) []int64 {
	product := make([]int64, len(x))
	for i := range x {
		for j := range y {
			product = sumOfLists(product, multipleOf(x[i]*y[j], r.Table[i][j]))
		}
	}
	return product
}

func firstOther(x []int64) int { return slices.IndexFunc(x, func(a int64) bool { return a != 0 }) }

// leastPolynomial has the coefficients of a polynomial of the least degree, with 1 as the last one,
// that is 0 if the powers of a vector are put into it.
func leastPolynomial(r impl.Ring, a []int64) []int64 {
	rows, origins, power := table{}, table{}, standsFor(r, 0)
	for k := 0; ; k++ {
		row, origin := power, make([]int64, len(a)+1)
		origin[k] = 1
		for i, other := range rows {
			factor := remainderOf(-row[firstOther(other)])
			row = sumOfLists(row, multipleOf(factor, other))
			origin = sumOfLists(origin, multipleOf(factor, origins[i]))
		}
		place := firstOther(row)
		if place < 0 {
			return origin[:k+1]
		}
		inverse := inverses()[row[place]]
		rows, origins = append(rows, multipleOf(inverse, row)), append(origins, multipleOf(inverse, origin))
		power = remainderProduct(r, power, a)
	}
}

// characterAt has the character that has a root of the polynomial of a vector as its value there: the
// polynomial without this root makes a vector that each label only multiplies, by its value.
func characterAt(r impl.Ring, a, polynomial []int64, root int64) []int64 {
	v, factor := make([]int64, len(a)), int64(0)
	for _, coefficient := range slices.Backward(polynomial[1:]) {
		factor = remainderOf(factor*root + coefficient)
		v = remainderProduct(r, v, a)
		v[0] = remainderOf(v[0] + factor)
	}
	x, place := []int64{}, firstOther(v)
	for i := range r.Table {
		x = append(x, remainderOf(remainderProduct(r, standsFor(r, i), v)[place]*inverses()[v[place]]))
	}
	return x
}

// wantedCharacters has all characters of a commutative ring. A vector whose powers make all vectors
// is sought; each character is told by its value there, and the values are roots.
func wantedCharacters(r impl.Ring) table {
	s := &sequence{state: 41}
	for range 20 {
		a := s.vector(r, impl.Prime)
		polynomial := leastPolynomial(r, a)
		if len(polynomial) <= len(r.Table) {
			continue
		}
		found := table{}
		for _, root := range rootsOf(polynomial) {
			found = append(found, characterAt(r, a, polynomial, root))
		}
		slices.SortFunc(found, slices.Compare)
		return found
	}
	panic("no vector makes all others")
}

// charactered is a commutative ring with its name and its characters.
type charactered struct {
	name       string
	ring       impl.Ring
	characters table
}

func (c charactered) isSplit() bool { return len(c.characters) == len(c.ring.Table) }

// doubledRings has rings that have a codegree 0.
func doubledRings() map[string]impl.Ring {
	s := &sequence{state: 43}
	all := map[string]impl.Ring{
		"doubled":               doubled,
		"doubled, 586":          selfDualCube(586, 413, 108, 288),
		"doubled, 934":          selfDualCube(934, 89, 941, 163),
		"doubled and 2":         productCube(doubled, groupCube(2, sums(2))),
		"doubled and 3":         productCube(groupCube(3, sums(3)), doubled),
		"doubled and 5":         productCube(doubled, groupCube(5, sums(5))),
		"doubled and Fibonacci": productCube(doubled, fibonacci),
	}
	for _, name := range slices.Sorted(keysOf(all)) {
		all[name+", shuffled"], _ = s.shuffled(all[name])
	}
	return all
}

// ringsWithCharacters has rings of all ranks, with some that are not commutative.
func ringsWithCharacters() map[string]impl.Ring {
	all := gradedRings()
	for name, r := range doubledRings() {
		all[name] = r
	}
	for n := range 16 {
		all[call("of the group", int64(n+1))] = groupCube(n+1, sums(n+1))
		all[call("of spins", int64(n))] = spinCube(n)
		all[call("near 1 with", int64(990+n))] = nearCube(1, sums(1), int64(985+n))
	}
	for k, r := range []impl.Ring{nearCube(13, sums(13), 1), nearCube(15, sums(15), 999), nearCube(5, sums(5), 1000)} {
		all[call("near", int64(k))] = r
	}
	return all
}

var charactersOfRings = sync.OnceValue(func() []charactered {
	list, all := []charactered{}, ringsWithCharacters()
	for _, name := range slices.Sorted(keysOf(all)) {
		if r := all[name]; commutes(r) {
			list = append(list, charactered{name, r, wantedCharacters(r)})
		}
	}
	return list
})

// ringsThatDoNotCommute has the other ones.
func ringsThatDoNotCommute() map[string]impl.Ring {
	all := ringsWithCharacters()
	for name, r := range all {
		if commutes(r) {
			delete(all, name)
		}
	}
	return all
}

// groupCharacters has the characters of the group of orders: to each place belongs a root of unity.
func groupCharacters(orders ...int64) table {
	found := table{{1}}
	for _, order := range orders {
		longer, root := table{}, rootOf(order)
		for _, x := range found {
			roots := map[int64]bool{}
			for power := int64(1); !roots[power]; power = remainderOf(power * root) {
				roots[power] = true
				row, value := make([]int64, len(x)*int(order)), int64(1)
				for place := range order {
					for at, a := range x {
						row[at*int(order)+int(place)] = remainderOf(a * value)
					}
					value = remainderOf(value * power)
				}
				longer = append(longer, row)
			}
		}
		found = longer
	}
	slices.SortFunc(found, slices.Compare)
	return found
}

// nearCharacters has the characters of the near-group ring: the last label is 0, or, where all others
// are 1, solves an equation.
func nearCharacters(k int64, orders ...int64) table {
	found := table{}
	for _, x := range groupCharacters(orders...) {
		if slices.Max(x) > 1 {
			found = append(found, append(x, 0))
			continue
		}
		for _, root := range rootsOf([]int64{remainderOf(int64(-len(x))), remainderOf(-k), 1}) {
			found = append(found, append(slices.Clone(x), root))
		}
	}
	slices.SortFunc(found, slices.Compare)
	return found
}

// spinCharacters has the characters of the spin ring of a level: with the value of the label 1 all
// others are told, and the next one behind the last has to be 0.
func spinCharacters(level int) table {
	found := table{}
	for z := range int64(impl.Prime) {
		x := []int64{1, z}
		for j := 1; j <= level; j++ {
			x = append(x, remainderOf(z*x[j]-x[j-1]))
		}
		if x[level+1] == 0 {
			found = append(found, x[:level+1])
		}
	}
	return found
}

// symmetricCharacters has the characters of the ring of the characters of the symmetric group of n:
// the values at all cycles.
func symmetricCharacters(n int) table {
	found := table{}
	for _, cycles := range partitionsOf(n, n) {
		x := []int64{}
		for _, partition := range partitionsOf(n, n) {
			x = append(x, remainderOf(symmetricCharacter(beadsOf(partition, n), cycles)))
		}
		found = append(found, x)
	}
	slices.SortFunc(found, slices.Compare)
	return found
}

func TestWantedCharacters(t *testing.T) {
	count, ranks := [3]int{}, map[int]int{}
	for _, test := range charactersOfRings() {
		n, most := len(test.characters), len(test.ring.Table)
		for _, x := range test.characters {
			if !hasCharacter(test.ring, x) {
				t.Errorf("%v is no character of the ring %s", x, test.name)
			}
		}
		ranks[most]++
		count[truth(n > 0)+truth(n == most)]++
	}
	for n := 1; n <= 16; n++ {
		if ranks[n] == 0 {
			t.Errorf("the ranks are %v", ranks)
		}
	}
	if count[0] < 10 || count[1] < 20 || count[2] < 100 || len(ringsThatDoNotCommute()) < 20 {
		t.Errorf("%v rings have no, some and all characters", count)
	}
}

func TestCharactersOf(t *testing.T) {
	for _, test := range charactersOfRings() {
		got, code := impl.CharactersOf(test.ring)
		checkTable(t, "CharactersOf "+test.name, got, code, test.characters, impl.ErrNone)
	}
}

func TestCharactersOfGroups(t *testing.T) {
	for _, orders := range ordersWithin(4, 16) {
		r, _ := impl.GroupRing(orders)
		got, code := impl.CharactersOf(r)
		checkTable(t, call("CharactersOf the group", orders...), got, code, groupCharacters(orders...), impl.ErrNone)
	}
}

func TestCharactersOfNearGroups(t *testing.T) {
	for _, orders := range ordersWithin(2, 15) {
		for _, k := range []int64{0, 1, 2, 999, 1000} {
			r, _ := impl.NearGroup(orders, k)
			got, code := impl.CharactersOf(r)
			checkTable(t, call(call("CharactersOf near", orders...), k), got, code, nearCharacters(k, orders...), impl.ErrNone)
		}
	}
}

func TestCharactersOfSpins(t *testing.T) {
	for k := range 16 {
		r, _ := impl.SpinRing(int64(k))
		got, code := impl.CharactersOf(r)
		checkTable(t, call("CharactersOf spins", int64(k)), got, code, spinCharacters(k), impl.ErrNone)
		want := table{}
		for _, x := range spinCharacters(k) {
			half := []int64{}
			for j := 0; j <= k; j += 2 {
				half = append(half, x[j])
			}
			want = append(want, half)
		}
		r, _ = impl.EvenSpinRing(int64(k))
		got, code = impl.CharactersOf(r)
		// A character of the even part that is not among them has no value of the label 1.
		for _, half := range want {
			if _, found := slices.BinarySearchFunc(got, half, slices.Compare); !found || code != impl.ErrNone {
				t.Errorf("%v is not among the characters of the even spins %d: %v, %d", half, k, got, code)
			}
		}
	}
}

func TestCharactersOfSymmetricGroups(t *testing.T) {
	for n := 1; n <= 7; n++ {
		r, _ := symmetricCube(n)
		got, code := impl.CharactersOf(r)
		checkTable(t, call("CharactersOf symmetric", int64(n)), got, code, symmetricCharacters(n), impl.ErrNone)
	}
}

// chosenCharacters has rings with their characters and codegrees, written out.
func chosenCharacters() []struct {
	charactered
	codegrees []int64
} {
	return []struct {
		charactered
		codegrees []int64
	}{
		{charactered{"of one label", groupCube(1, sums(1)), table{{1}}}, []int64{1}},
		{charactered{"of the group 2", groupCube(2, sums(2)), table{{1, 1}, {1, 55440}}}, []int64{2, 2}},
		{charactered{"of Fibonacci", fibonacci, table{{1, 13401}, {1, 42041}}}, []int64{13403, 42043}},
		{charactered{"near 1 with 1000", nearCube(1, sums(1), 1000), table{}}, []int64{}},
		{charactered{"of the group 3", groupCube(3, sums(3)), table{{1, 1, 1}, {1, 9497, 45943}, {1, 45943, 9497}}}, []int64{3, 3, 3}},
		{charactered{"of Ising", nearCube(2, sums(2), 0), table{{1, 1, 10826}, {1, 1, 44615}, {1, 55440, 0}}}, []int64{4, 4, 2}},
		{charactered{"of S3", dihedralCube(3), table{{1, 1, 2}, {1, 1, 55440}, {1, 55440, 0}}}, []int64{6, 3, 2}},
		{charactered{"near 2 with 1000", nearCube(2, sums(2), 1000), table{{1, 55440, 0}}}, []int64{2}},
		{charactered{"doubled", doubled, table{{1, 31350, 27149}, {1, 48259, 1438}}}, []int64{0, 37522}},
		{charactered{"of the group 4", groupCube(4, sums(4)), table{
			{1, 1, 1, 1}, {1, 14440, 55440, 41001}, {1, 41001, 55440, 14440}, {1, 55440, 1, 55440},
		}}, []int64{4, 4, 4, 4}},
		{charactered{"of the group 13", groupCube(13, sums(13)), table{repeated(1, 13)}}, []int64{13}},
		{charactered{"of spins 15", spinCube(15), table{}}, []int64{}},
	}
}

func TestChosenCharacters(t *testing.T) {
	for _, test := range chosenCharacters() {
		got, code := impl.CharactersOf(test.ring)
		checkTable(t, "CharactersOf "+test.name, got, code, test.characters, impl.ErrNone)
		split, code := impl.IsSplit(test.ring)
		checkBool(t, "IsSplit "+test.name, split, code, test.isSplit(), impl.ErrNone)
		codegrees, code := impl.CodegreesOf(test.ring)
		checkList(t, "CodegreesOf "+test.name, codegrees, code, test.codegrees, impl.ErrNone)
	}
}

func TestIsSplit(t *testing.T) {
	for _, test := range charactersOfRings() {
		got, code := impl.IsSplit(test.ring)
		checkBool(t, "IsSplit "+test.name, got, code, test.isSplit(), impl.ErrNone)
	}
}

func TestMatrixOfCharacters(t *testing.T) {
	for _, test := range charactersOfRings() {
		want, wantCode := test.characters, int64(impl.ErrNone)
		if !test.isSplit() {
			want, wantCode = nil, impl.ErrState
		}
		got, code := impl.MatrixOfCharacters(test.ring)
		checkTable(t, "MatrixOfCharacters "+test.name, got, code, want, wantCode)
		if determinant, code := impl.Determinant(got); test.isSplit() && (determinant == 0 || code != impl.ErrNone) {
			t.Errorf("MatrixOfCharacters %s has the determinant %d, %d", test.name, determinant, code)
		}
	}
}

func TestIsCharacter(t *testing.T) {
	for _, test := range charactersOfRings() {
		r, what := test.ring, "IsCharacter "+test.name
		check := func(x []int64) {
			got, code := impl.IsCharacter(r, x)
			checkBool(t, what, got, code, hasCharacter(r, x), impl.ErrNone)
		}
		check(repeated(0, len(r.Table)))
		check(repeated(1, len(r.Table)))
		check(repeated(55440, len(r.Table)))
		for at, x := range test.characters {
			got, code := impl.IsCharacter(r, x)
			checkBool(t, what, got, code, true, impl.ErrNone)
			// Each number in turn becomes another one, with those of a few characters only.
			for place := range x {
				other := slices.Clone(x)
				other[place] = remainderOf(x[place] + 1 + int64(at))
				if at < 2 {
					check(other)
				}
			}
			if at > 0 {
				check(sumOfLists(x, test.characters[at-1]))
				check(multipleOf(27721, sumOfLists(x, test.characters[at-1])))
			}
		}
	}
}

func TestListsOfTwoNumbers(t *testing.T) {
	for _, r := range []impl.Ring{fibonacci, groupCube(2, sums(2)), nearCube(1, sums(1), 998), nearCube(1, sums(1), 1000)} {
		found := table{}
		for a := range int64(impl.Prime) {
			if is, code := impl.IsCharacter(r, []int64{1, a}); is || code != impl.ErrNone {
				found = append(found, []int64{1, a})
			}
		}
		checkTable(t, "the characters of "+textOf(r), found, impl.ErrNone, wantedCharacters(r), impl.ErrNone)
		for _, first := range someNumbers {
			for _, a := range append([]int64{13401, 42041}, someNumbers...) {
				x := []int64{first, a}
				got, code := impl.IsCharacter(r, x)
				checkBool(t, call("IsCharacter of "+textOf(r), x...), got, code, hasCharacter(r, x), impl.ErrNone)
			}
		}
	}
}

func TestCodegrees(t *testing.T) {
	zeros := 0
	for _, test := range charactersOfRings() {
		want := []int64{}
		for _, x := range test.characters {
			codegree := pairingIn(test.ring, x, x)
			got, code := impl.CodegreeOf(test.ring, x)
			checkNumber(t, "CodegreeOf "+test.name, got, code, codegree, impl.ErrNone)
			want = append(want, codegree)
			zeros += int(truth(codegree == 0))
		}
		got, code := impl.CodegreesOf(test.ring)
		checkList(t, "CodegreesOf "+test.name, got, code, want, impl.ErrNone)
	}
	if zeros < 10 {
		t.Errorf("only %d codegrees are 0", zeros)
	}
}

func TestInversesOfCodegrees(t *testing.T) {
	for _, test := range charactersOfRings() {
		codegrees, _ := impl.CodegreesOf(test.ring)
		sum := int64(0)
		for _, codegree := range codegrees {
			if test.isSplit() && codegree == 0 {
				t.Errorf("the split ring %s has a codegree 0", test.name)
			}
			sum = remainderOf(sum + inverses()[codegree])
		}
		if test.isSplit() && (sum != 1 || len(codegrees) != len(test.ring.Table)) {
			t.Errorf("the inverses of the codegrees of the ring %s have the sum %d", test.name, sum)
		}
	}
}

func TestPairingOf(t *testing.T) {
	for _, test := range charactersOfRings() {
		for i, x := range test.characters {
			for j, y := range test.characters {
				// The greatest rings take too long for all pairs.
				if distance := max(i-j, j-i); len(test.ring.Table) > 9 && distance > 1 {
					continue
				}
				got, code := impl.PairingOf(test.ring, x, y)
				checkNumber(t, "PairingOf "+test.name, got, code, pairingIn(test.ring, x, y), impl.ErrNone)
				if i != j && got != 0 {
					t.Errorf("different characters of the ring %s have the pairing %d", test.name, got)
				}
			}
		}
	}
}

func TestDualCharacter(t *testing.T) {
	others := 0
	for _, test := range charactersOfRings() {
		r := test.ring
		for _, x := range test.characters {
			want := takeNumbers(x, dualsIn(r))
			got, code := impl.DualCharacter(r, x)
			checkList(t, "DualCharacter "+test.name, got, code, want, impl.ErrNone)
			if _, found := slices.BinarySearchFunc(test.characters, got, slices.Compare); !found {
				t.Errorf("DualCharacter %s = %v is no character", test.name, got)
				continue
			}
			back, code := impl.DualCharacter(r, got)
			checkList(t, "DualCharacter twice "+test.name, back, code, x, impl.ErrNone)
			others += int(truth(!slices.Equal(got, x)))
		}
	}
	if others < 50 {
		t.Errorf("only %d characters have another one as their dual", others)
	}
}

// wantedIdempotent has the idempotent of a character, and the code.
func wantedIdempotent(r impl.Ring, x []int64) ([]int64, int64) {
	codegree := pairingIn(r, x, x)
	if codegree == 0 {
		return nil, impl.ErrState
	}
	return multipleOf(inverses()[codegree], takeNumbers(x, dualsIn(r))), impl.ErrNone
}

func TestIdempotentOf(t *testing.T) {
	codes := map[int64]int{}
	for _, test := range charactersOfRings() {
		r, idempotents := test.ring, table{}
		for _, x := range test.characters {
			want, wantCode := wantedIdempotent(r, x)
			got, code := impl.IdempotentOf(r, x)
			checkList(t, "IdempotentOf "+test.name, got, code, want, wantCode)
			codes[code]++
			if code == impl.ErrNone && len(got) == len(x) {
				idempotents = append(idempotents, got)
			}
		}
		checkIdempotents(t, test, idempotents)
	}
	if codes[impl.ErrNone] < 500 || codes[impl.ErrState] < 10 {
		t.Errorf("the codes are %v", codes)
	}
}

// checkIdempotents checks that the products of equal idempotents are themselves and those of different
// ones 0, and that all of a split ring have the label 0 as their sum.
func checkIdempotents(t *testing.T, test charactered, idempotents table) {
	t.Helper()
	sum := make([]int64, len(test.ring.Table))
	for i, e := range idempotents {
		sum = sumOfLists(sum, e)
		for j, f := range idempotents {
			want := repeated(0, len(e))
			if i == j {
				want = e
			}
			if distance := max(i-j, j-i); len(e) > 9 && distance > 1 {
				continue
			}
			if product := remainderProduct(test.ring, e, f); !slices.Equal(product, want) {
				t.Errorf("of the ring %s, %v times %v is %v", test.name, e, f, product)
			}
		}
	}
	if test.isSplit() && !slices.Equal(sum, standsFor(test.ring, 0)) {
		t.Errorf("the idempotents of the ring %s have the sum %v", test.name, sum)
	}
}

func TestValueOf(t *testing.T) {
	s := &sequence{state: 47}
	for _, test := range charactersOfRings() {
		r := test.ring
		n := len(r.Table)
		for _, x := range test.characters {
			v, w := s.vector(r, impl.Prime), s.vector(r, impl.Prime)
			values := []int64{}
			for _, list := range [][]int64{v, w, remainderProduct(r, v, w), repeated(0, n), repeated(55440, n), standsFor(r, n-1), x} {
				got, code := impl.ValueOf(r, x, list)
				checkNumber(t, "ValueOf "+test.name, got, code, sumOf(x, list), impl.ErrNone)
				values = append(values, got)
			}
			if values[2] != remainderOf(values[0]*values[1]) {
				t.Errorf("of the ring %s the values of vectors and their product are %v", test.name, values[:3])
			}
		}
	}
}

func TestExamplesOfChapter8(t *testing.T) {
	two := groupCube(2, sums(2))
	characters, code := impl.CharactersOf(two)
	checkTable(t, "CharactersOf", characters, code, table{{1, 1}, {1, 55440}}, impl.ErrNone)
	ring, code := impl.RingOfCharacters(table{{1, 1}, {1, 55440}}, []int64{0, 1})
	if textOf(ring) != "1 0 0 1/0 1 1 0" || code != impl.ErrNone {
		t.Errorf("RingOfCharacters = %s, %d", textOf(ring), code)
	}
}

// characterFunctions has the functions of one ring, with lists that a function makes for it, and the
// product with a character of another one. Each one also tells whether the result beside the code is
// the zero value.
func characterFunctions(list func(r impl.Ring) []int64) map[string]func(impl.Ring) (bool, int64) {
	one, x := groupCube(1, sums(1)), []int64{1}
	lists := func(list []int64, code int64) (bool, int64) { return len(list) == 0, code }
	numbers := func(a int64, code int64) (bool, int64) { return a == 0, code }
	bools := func(is bool, code int64) (bool, int64) { return !is, code }
	tables := func(m table, code int64) (bool, int64) { return len(m) == 0, code }
	return map[string]func(impl.Ring) (bool, int64){
		"IsCharacter":              func(r impl.Ring) (bool, int64) { return bools(impl.IsCharacter(r, list(r))) },
		"CharactersOf":             func(r impl.Ring) (bool, int64) { return tables(impl.CharactersOf(r)) },
		"IsSplit":                  func(r impl.Ring) (bool, int64) { return bools(impl.IsSplit(r)) },
		"CodegreeOf":               func(r impl.Ring) (bool, int64) { return numbers(impl.CodegreeOf(r, list(r))) },
		"PairingOf":                func(r impl.Ring) (bool, int64) { return numbers(impl.PairingOf(r, list(r), list(r))) },
		"PairingOf, first only":    func(r impl.Ring) (bool, int64) { return numbers(impl.PairingOf(r, list(r), nil)) },
		"PairingOf, second only":   func(r impl.Ring) (bool, int64) { return numbers(impl.PairingOf(r, nil, list(r))) },
		"DualCharacter":            func(r impl.Ring) (bool, int64) { return lists(impl.DualCharacter(r, list(r))) },
		"IdempotentOf":             func(r impl.Ring) (bool, int64) { return lists(impl.IdempotentOf(r, list(r))) },
		"ValueOf":                  func(r impl.Ring) (bool, int64) { return numbers(impl.ValueOf(r, list(r), list(r))) },
		"ValueOf, character only":  func(r impl.Ring) (bool, int64) { return numbers(impl.ValueOf(r, list(r), nil)) },
		"ValueOf, vector only":     func(r impl.Ring) (bool, int64) { return numbers(impl.ValueOf(r, nil, list(r))) },
		"CodegreesOf":              func(r impl.Ring) (bool, int64) { return lists(impl.CodegreesOf(r)) },
		"ProductCharacter, first":  func(r impl.Ring) (bool, int64) { return lists(impl.ProductCharacter(r, one, list(r), x)) },
		"ProductCharacter, second": func(r impl.Ring) (bool, int64) { return lists(impl.ProductCharacter(one, r, x, list(r))) },
		"ProductCharacter, both":   func(r impl.Ring) (bool, int64) { return lists(impl.ProductCharacter(r, r, list(r), list(r))) },
		"ProductCharacter, none":   func(r impl.Ring) (bool, int64) { return lists(impl.ProductCharacter(r, one, list(r), nil)) },
		"MatrixOfCharacters":       func(r impl.Ring) (bool, int64) { return tables(impl.MatrixOfCharacters(r)) },
	}
}

// noLists makes lists that are not of a number for each label.
func noLists(r impl.Ring) table {
	n := len(r.Table)
	lists := table{repeated(1, n+1), repeated(1, n+16), append(standsFor(r, 0), 0)}
	for length := range n {
		lists = append(lists, repeated(1, length))
	}
	for _, a := range noNumbers {
		for _, place := range []int{0, n / 2, n - 1} {
			x := repeated(1, n)
			x[place] = a
			lists = append(lists, x)
		}
	}
	return append(lists, repeated(-1, n), repeated(impl.Prime, n), nil, []int64{})
}

// someLists has functions that make lists for any table: of numbers, and others.
func someLists() map[string]func(r impl.Ring) []int64 {
	return map[string]func(r impl.Ring) []int64{
		"ones":      func(r impl.Ring) []int64 { return repeated(1, len(r.Table)) },
		"zeros":     func(r impl.Ring) []int64 { return repeated(0, len(r.Table)) },
		"nothing":   func(r impl.Ring) []int64 { return nil },
		"one more":  func(r impl.Ring) []int64 { return repeated(1, len(r.Table)+1) },
		"negatives": func(r impl.Ring) []int64 { return repeated(-1, len(r.Table)) },
		"primes":    func(r impl.Ring) []int64 { return repeated(impl.Prime, len(r.Table)) },
	}
}

// checkFunctions checks that all functions of one ring return a code, and zero values.
func checkFunctions(t *testing.T, name string, r impl.Ring, wantCode int64) {
	t.Helper()
	for kind, list := range someLists() {
		for what, function := range characterFunctions(list) {
			if zero, code := function(r); !zero || code != wantCode {
				t.Errorf("%s of %s with %s returns %d, zero %v", what, name, kind, code, zero)
			}
		}
	}
}

func TestCharactersOfWhatIsNoRing(t *testing.T) {
	for _, rings := range []map[string]impl.Ring{noCubes(), noRings()} {
		for what, r := range rings {
			checkFunctions(t, what, r, impl.ErrInvalid)
		}
	}
}

func TestRingsThatDoNotCommute(t *testing.T) {
	for name, r := range ringsThatDoNotCommute() {
		checkFunctions(t, name, r, impl.ErrState)
	}
}

func TestListsThatAreNotOfNumbers(t *testing.T) {
	needNoList := []string{"CharactersOf", "IsSplit", "CodegreesOf", "MatrixOfCharacters"}
	for _, r := range []impl.Ring{
		groupCube(1, sums(1)), fibonacci, groupCube(3, sums(3)), doubled, nearCube(1, sums(1), 1000), groupCube(16, sums(16)), spinCube(15),
	} {
		for _, x := range noLists(r) {
			for name, function := range characterFunctions(func(impl.Ring) []int64 { return x }) {
				if slices.Contains(needNoList, name) {
					continue
				}
				if zero, code := function(r); !zero || code != impl.ErrRange {
					t.Errorf("%s of %s and %v returns %d, zero %v", name, textOf(r), x, code, zero)
				}
			}
		}
	}
}

func TestCharactersWithWhatIsNoList(t *testing.T) {
	one := groupCube(1, sums(1))
	for _, test := range chosenCharacters() {
		r := test.ring
		for _, x := range test.characters {
			for _, v := range noLists(r) {
				value, code := impl.ValueOf(r, x, v)
				checkNumber(t, call("ValueOf "+test.name, v...), value, code, 0, impl.ErrRange)
				pairing, code := impl.PairingOf(r, x, v)
				checkNumber(t, call("PairingOf first "+test.name, v...), pairing, code, 0, impl.ErrRange)
				pairing, code = impl.PairingOf(r, v, x)
				checkNumber(t, call("PairingOf second "+test.name, v...), pairing, code, 0, impl.ErrRange)
				product, code := impl.ProductCharacter(r, r, x, v)
				checkList(t, call("ProductCharacter first "+test.name, v...), product, code, nil, impl.ErrRange)
				product, code = impl.ProductCharacter(r, one, v, []int64{1})
				checkList(t, call("ProductCharacter second "+test.name, v...), product, code, nil, impl.ErrRange)
			}
		}
	}
}

// noCharacters makes lists of numbers for a ring that are no characters of it.
func noCharacters(test charactered) table {
	n := len(test.ring.Table)
	lists := table{repeated(0, n), repeated(55440, n), repeated(2, n), append([]int64{1}, repeated(3, n-1)...), append([]int64{0}, repeated(1, n-1)...)}
	for _, x := range test.characters {
		less, more, half := slices.Clone(x), slices.Clone(x), multipleOf(27721, x)
		less[0], more[n-1] = 0, remainderOf(more[n-1]+1)
		lists = append(lists, less, more, half)
	}
	return slices.DeleteFunc(lists, func(x []int64) bool { return hasCharacter(test.ring, x) })
}

func TestListsThatAreNoCharacters(t *testing.T) {
	one, count := groupCube(1, sums(1)), 0
	for _, test := range chosenCharacters() {
		r := test.ring
		for _, x := range noCharacters(test.charactered) {
			what := call(test.name, x...)
			count++
			is, code := impl.IsCharacter(r, x)
			checkBool(t, "IsCharacter "+what, is, code, false, impl.ErrNone)
			codegree, code := impl.CodegreeOf(r, x)
			checkNumber(t, "CodegreeOf "+what, codegree, code, 0, impl.ErrRange)
			dual, code := impl.DualCharacter(r, x)
			checkList(t, "DualCharacter "+what, dual, code, nil, impl.ErrRange)
			idempotent, code := impl.IdempotentOf(r, x)
			checkList(t, "IdempotentOf "+what, idempotent, code, nil, impl.ErrRange)
			value, code := impl.ValueOf(r, x, repeated(1, len(x)))
			checkNumber(t, "ValueOf "+what, value, code, 0, impl.ErrRange)
			product, code := impl.ProductCharacter(r, one, x, []int64{1})
			checkList(t, "ProductCharacter first "+what, product, code, nil, impl.ErrRange)
			product, code = impl.ProductCharacter(one, r, []int64{1}, x)
			checkList(t, "ProductCharacter second "+what, product, code, nil, impl.ErrRange)
			for _, y := range append(test.characters, x) {
				first, code := impl.PairingOf(r, x, y)
				checkNumber(t, "PairingOf first "+what, first, code, 0, impl.ErrRange)
				second, code := impl.PairingOf(r, y, x)
				checkNumber(t, "PairingOf second "+what, second, code, 0, impl.ErrRange)
			}
		}
	}
	if count < 60 {
		t.Errorf("there are only %d lists", count)
	}
}

func TestOrderOfCodesOfProducts(t *testing.T) {
	none, other, one := noRings()["a wrong unit"], groupCube(6, twisted(3, 2, 2)), groupCube(1, sums(1))
	good, trivial := []int64{1}, repeated(1, 6)
	for _, test := range []struct {
		r, s impl.Ring
		x, y []int64
		code int64
	}{
		{none, none, nil, nil, impl.ErrInvalid},
		{none, other, good, trivial, impl.ErrInvalid},
		{other, none, trivial, good, impl.ErrInvalid},
		{other, none, nil, nil, impl.ErrInvalid},
		{one, none, nil, nil, impl.ErrInvalid},
		{other, other, trivial, trivial, impl.ErrState},
		{other, one, trivial, good, impl.ErrState},
		{one, other, good, trivial, impl.ErrState},
		{one, other, nil, trivial, impl.ErrState},
		{other, one, trivial, nil, impl.ErrState},
		{one, one, nil, good, impl.ErrRange},
		{one, one, good, nil, impl.ErrRange},
		{one, one, good, []int64{0}, impl.ErrRange},
		{one, fibonacci, good, good, impl.ErrRange},
		{fibonacci, one, good, good, impl.ErrRange},
		{doubled, one, []int64{1, 31350, 27149}, []int64{2}, impl.ErrRange},
	} {
		got, code := impl.ProductCharacter(test.r, test.s, test.x, test.y)
		checkList(t, "ProductCharacter of "+textOf(test.r)+" and "+textOf(test.s), got, code, nil, test.code)
	}
}

// toldBy has the cube that a table and duals tell, and whether there is one, as the document tells it.
func toldBy(m table, duals []int64) (impl.Ring, bool) {
	factors := []int64{}
	for _, x := range m {
		codegree := sumOf(x, takeNumbers(x, duals))
		if codegree == 0 {
			return impl.Ring{}, false
		}
		factors = append(factors, inverses()[codegree])
	}
	return cubeOf(len(m), func(i, j, k int) int64 {
		sum := int64(0)
		for at, x := range m {
			sum = remainderOf(sum + remainderOf(x[i]*x[j])*remainderOf(x[duals[k]]*factors[at]))
		}
		return sum
	}), true
}

// wantedTold has the ring that a table and duals tell, and the code.
func wantedTold(m table, duals []int64) (impl.Ring, int64) {
	r, told := toldBy(m, duals)
	if !told || slices.Max(numbersIn(r)) > 1000 || wantedFault(r) != nil || !commutes(r) || !slices.Equal(dualsIn(r), duals) {
		return impl.Ring{}, impl.ErrState
	}
	return r, impl.ErrNone
}

// checkTold compares RingOfCharacters with what the document tells, and returns the code.
func checkTold(t *testing.T, m table, duals []int64) int64 {
	t.Helper()
	want, wantCode := wantedTold(m, duals)
	got, code := impl.RingOfCharacters(m, duals)
	if code != wantCode || !reflect.DeepEqual(got, want) {
		t.Errorf("RingOfCharacters(%v, %v) = %v, %d, want %v, %d", m, duals, got, code, want, wantCode)
	}
	return code
}

// involutionsOf has all permutations of n labels that are their own inverses.
func involutionsOf(n int) table {
	all := table{}
	var extend func(duals []int64)
	extend = func(duals []int64) {
		free := slices.Index(duals, -1)
		if free < 0 {
			all = append(all, duals)
			return
		}
		for i := free; i < n; i++ {
			if duals[i] < 0 {
				next := slices.Clone(duals)
				next[free], next[i] = int64(i), int64(free)
				extend(next)
			}
		}
	}
	extend(repeated(-1, n))
	return all
}

func TestRingsAreTold(t *testing.T) {
	s, ranks := &sequence{state: 53}, map[int]int{}
	for _, test := range charactersOfRings() {
		if !test.isSplit() {
			continue
		}
		n := len(test.characters)
		ranks[n]++
		rows := slices.Clone(test.characters)
		for range 3 {
			got, code := impl.RingOfCharacters(rows, dualsIn(test.ring))
			checkRing(t, "RingOfCharacters "+test.name, got, code, test.ring, impl.ErrNone)
			for i := range rows {
				j := s.next(int64(n))
				rows[i], rows[j] = rows[j], rows[i]
			}
		}
	}
	if ranks[1] == 0 || ranks[15] == 0 || ranks[16] == 0 {
		t.Errorf("the ranks are %v", ranks)
	}
}

func TestSplitRingsAreToldByTheirCharacters(t *testing.T) {
	for name, r := range ringsWithCharacters() {
		characters, code := impl.MatrixOfCharacters(r)
		if code != impl.ErrNone {
			continue
		}
		duals, _ := impl.DualsOf(r)
		got, code := impl.RingOfCharacters(characters, duals)
		checkRing(t, "RingOfCharacters of the characters of the ring "+name, got, code, r, impl.ErrNone)
	}
}

func TestRowsInAnyOrder(t *testing.T) {
	for _, r := range []impl.Ring{fibonacci, groupCube(3, sums(3)), dihedralCube(3), groupCube(4, sums(4)), groupCube(4, sums(2, 2)), spinCube(3)} {
		characters := wantedCharacters(r)
		for _, order := range permutationsOf(len(characters)) {
			for _, first := range order {
				rows := table{}
				for _, at := range order {
					rows = append(rows, characters[(at+first)%len(order)])
				}
				got, code := impl.RingOfCharacters(rows, dualsIn(r))
				checkRing(t, "RingOfCharacters of "+textOf(r), got, code, r, impl.ErrNone)
			}
		}
	}
}

func TestTablesOfOneNumber(t *testing.T) {
	for a := range int64(impl.Prime) {
		want, wantCode := impl.Ring{}, int64(impl.ErrState)
		if a == 1 {
			want, wantCode = groupCube(1, sums(1)), impl.ErrNone
		}
		got, code := impl.RingOfCharacters(table{{a}}, []int64{0})
		checkRing(t, call("RingOfCharacters", a), got, code, want, wantCode)
	}
}

// chooseTables calls visit with all tables of n lists with numbers of a list, in the first place too
// or with 1 there.
func chooseTables(n int, numbers []int64, first bool, visit func(m table)) {
	m := tableOf(n, n, 1)
	var fill func(place int)
	fill = func(place int) {
		switch {
		case place == n*n:
			visit(m)
		case place%n == 0 && !first:
			fill(place + 1)
		default:
			for _, a := range numbers {
				m[place/n][place%n] = a
				fill(place + 1)
			}
		}
	}
	fill(0)
}

func TestTablesOfTwoLists(t *testing.T) {
	codes := map[int64]int{}
	chooseTables(2, []int64{0, 1, 2, 13401, 14440, 27720, 42041, 55440}, true, func(m table) {
		for _, duals := range involutionsOf(2) {
			codes[checkTold(t, m, duals)]++
		}
	})
	// The group of two elements and the ring of Fibonacci, with their rows in both orders.
	if codes[impl.ErrNone] != 4 || codes[impl.ErrState] != 8188 {
		t.Errorf("the codes are %v", codes)
	}
}

func TestTablesOfThreeLists(t *testing.T) {
	codes := map[int64]int{}
	check := func(m table) {
		for _, duals := range involutionsOf(3) {
			codes[checkTold(t, m, duals)]++
		}
	}
	chooseTables(3, []int64{0, 1, 2, 55440}, false, check)
	chooseTables(3, []int64{1, 9497, 45943}, false, check)
	// The characters of the group S3 with both numbers of the other labels, and the group of three
	// elements, with their rows in all orders.
	if codes[impl.ErrNone] != 18 {
		t.Errorf("the codes are %v", codes)
	}
}

func TestTablesWithOneOtherNumber(t *testing.T) {
	codes := map[int64]int{}
	for _, test := range charactersOfRings() {
		if !test.isSplit() || len(test.characters) > 4 {
			continue
		}
		m, duals := copyTable(test.characters), dualsIn(test.ring)
		for _, row := range m {
			for k, old := range row {
				for _, a := range []int64{0, 1, remainderOf(old + 1), remainderOf(-old)} {
					row[k] = a
					codes[checkTold(t, m, duals)]++
				}
				row[k] = old
			}
		}
	}
	if codes[impl.ErrNone] == 0 || codes[impl.ErrState] < 1000 {
		t.Errorf("the codes are %v", codes)
	}
}

func TestOtherDuals(t *testing.T) {
	others := 0
	for _, test := range charactersOfRings() {
		n, told := len(test.characters), 0
		if !test.isSplit() || n > 5 {
			continue
		}
		for _, duals := range involutionsOf(n) {
			if checkTold(t, test.characters, duals) == impl.ErrNone {
				told++
				continue
			}
			// The numbers may well be those of the ring.
			r, _ := toldBy(test.characters, duals)
			others += int(truth(reflect.DeepEqual(r, test.ring)))
		}
		if told != 1 {
			t.Errorf("the characters of the ring %s tell a ring with %d duals", test.name, told)
		}
	}
	if others < 20 {
		t.Errorf("only %d duals tell a ring with other ones", others)
	}
	for _, test := range []struct {
		orders []int64
		duals  []int64
	}{
		{[]int64{2}, []int64{1, 0}},
		{[]int64{3}, []int64{1, 0, 2}},
		{[]int64{2, 2}, []int64{3, 2, 1, 0}},
	} {
		got, code := impl.RingOfCharacters(groupCharacters(test.orders...), test.duals)
		checkRing(t, call("RingOfCharacters with other duals", test.duals...), got, code, impl.Ring{}, impl.ErrState)
	}
}

func TestTablesWithTheCodegree0(t *testing.T) {
	root, two := rootOf(4), wantedCharacters(doubled)
	for _, test := range []struct {
		rows  table
		duals []int64
	}{
		{table{{0}}, []int64{0}},
		{table{{1, root}, {1, 1}}, []int64{0, 1}},
		{table{{1, 1}, {1, root}}, []int64{0, 1}},
		{table{{1, 0}, {1, 1}}, []int64{1, 0}},
		{tableOf(16, 16, 0), labelsBackwards(16)},
		{groupCharacters(3), []int64{0, 1, 2}},
		{table{two[0], two[1], two[0]}, []int64{0, 1, 2}},
		{table{two[1], two[1], two[0]}, []int64{0, 1, 2}},
	} {
		if _, told := toldBy(test.rows, test.duals); told {
			t.Errorf("%v with %v has no codegree 0", test.rows, test.duals)
		}
		got, code := impl.RingOfCharacters(test.rows, test.duals)
		checkRing(t, "RingOfCharacters with a codegree 0", got, code, impl.Ring{}, impl.ErrState)
	}
}

// labelsBackwards is the permutation of n labels that turns their order.
func labelsBackwards(n int) []int64 {
	duals := []int64{}
	for i := range n {
		duals = append(duals, int64(n-1-i))
	}
	return duals
}

func TestTablesWithEqualRows(t *testing.T) {
	for _, test := range charactersOfRings() {
		n, duals := len(test.characters), dualsIn(test.ring)
		if !test.isSplit() || n < 2 {
			continue
		}
		for _, place := range []int{0, n - 1} {
			m := slices.Clone(test.characters)
			m[place] = m[1-min(place, 1)]
			got, code := impl.RingOfCharacters(m, duals)
			checkRing(t, "RingOfCharacters with equal rows, "+test.name, got, code, impl.Ring{}, impl.ErrState)
		}
	}
}

func TestTablesWithGreatNumbers(t *testing.T) {
	for _, test := range []struct {
		n    int
		k    int64
		code int64
	}{
		{1, 998, impl.ErrNone}, {1, 1002, impl.ErrState},
		{5, 1000, impl.ErrNone}, {5, 1001, impl.ErrState},
		{11, 1000, impl.ErrNone}, {11, 1001, impl.ErrState}, {11, 1002, impl.ErrState},
		{15, 999, impl.ErrNone}, {15, 1001, impl.ErrState},
	} {
		r := nearCube(test.n, sums(test.n), test.k)
		characters, want := wantedCharacters(r), impl.Ring{}
		if cube, _ := toldBy(characters, dualsIn(r)); !reflect.DeepEqual(cube, r) {
			t.Errorf("%s is told as %v", call("near", int64(test.n), test.k), cube)
		}
		if test.code == impl.ErrNone {
			want = r
		}
		got, code := impl.RingOfCharacters(characters, dualsIn(r))
		checkRing(t, call("RingOfCharacters near", int64(test.n), test.k), got, code, want, test.code)
	}
}

func TestTablesOfWhatIsNoRing(t *testing.T) {
	// With 1 and 2 as duals of each other, products are associative if a d is 1 + b c, but the duals
	// of products are products of the duals only if a is d, and b is c.
	duals, rings, others := []int64{0, 2, 1}, 0, 0
	for number := range int64(7 * 7 * 7 * 7) {
		a, b, c, d := number%7, number/7%7, number/49%7, number/343
		if a*d != 1+b*c {
			continue
		}
		r := groupCube(3, sums(3))
		r.Table[1][1], r.Table[1][2], r.Table[2][1], r.Table[2][2] = []int64{0, b, a}, []int64{1, c, b}, []int64{1, c, b}, []int64{0, d, c}
		characters := wantedCharacters(r)
		cube, told := impl.Ring{}, false
		if len(characters) == 3 {
			cube, told = toldBy(characters, duals)
		}
		if !told {
			continue
		}
		if !multipliesWell(r) || !reflect.DeepEqual(cube, r) {
			t.Errorf("%s is told as %s", textOf(r), textOf(cube))
		}
		if checkTold(t, characters, duals) == impl.ErrNone {
			rings++
		} else {
			others++
		}
	}
	// a = d and b = c leave only the group of three elements.
	if rings != 1 || others < 5 {
		t.Errorf("%d tables tell rings, %d others", rings, others)
	}
}

func TestTablesOutOfRange(t *testing.T) {
	good := groupCharacters(16)
	duals := append([]int64{0}, labelsBackwards(16)[:15]...)
	got, code := impl.RingOfCharacters(good, duals)
	checkRing(t, "RingOfCharacters of 16 lists", got, code, groupCube(16, sums(16)), impl.ErrNone)
	change := func(m table, at int, row []int64) table {
		other := copyTable(m)
		other[at] = row
		return other
	}
	for _, test := range []struct {
		rows  table
		duals []int64
	}{
		{nil, nil}, {table{}, []int64{}}, {nil, []int64{0}}, {table{{}}, []int64{0}}, {table{{}}, nil}, {table{nil}, []int64{0}},
		{table{{1}}, nil}, {table{{1}}, []int64{}}, {table{{1}}, []int64{0, 0}}, {table{{1}}, []int64{0, 1}}, {table{{1}}, []int64{1}},
		{table{{1, 1}}, []int64{0}}, {table{{1, 1}}, []int64{0, 1}}, {table{{1}, {1}}, []int64{0, 1}}, {table{{1}, {1}}, []int64{0}},
		{tableOf(17, 17, 1), labelsBackwards(17)}, {tableOf(17, 16, 1), labelsBackwards(16)}, {tableOf(16, 17, 1), labelsBackwards(16)},
		{groupCharacters(17), labelsBackwards(17)}, {unitTable(17), labelsBackwards(17)}, {unitTable(18), labelsBackwards(18)},
		{tableOf(1000, 1000, 1), labelsBackwards(1000)},
		{good, nil}, {good, duals[:15]}, {good, append(slices.Clone(duals), 16)}, {good[:15], duals}, {good[:15], duals[:15]},
		{change(good, 0, nil), duals}, {change(good, 15, good[15][:15]), duals}, {change(good, 7, append(slices.Clone(good[7]), 1)), duals},
	} {
		got, code := impl.RingOfCharacters(test.rows, test.duals)
		checkRing(t, call("RingOfCharacters out of range", test.duals...), got, code, impl.Ring{}, impl.ErrRange)
	}
	for _, a := range noNumbers {
		for _, place := range []int{0, 5, 15} {
			row := slices.Clone(good[place])
			row[15-place] = a
			got, code := impl.RingOfCharacters(change(good, place, row), duals)
			checkRing(t, call("RingOfCharacters with", a), got, code, impl.Ring{}, impl.ErrRange)
		}
		got, code := impl.RingOfCharacters(table{{a}}, []int64{0})
		checkRing(t, call("RingOfCharacters of", a), got, code, impl.Ring{}, impl.ErrRange)
	}
}

func TestDualsOutOfRange(t *testing.T) {
	for n := 1; n <= 3; n++ {
		// The second table has the codegree 0, which is found behind them.
		for _, m := range []table{groupCharacters(int64(n)), tableOf(n, n, 0)} {
			for number := range 125 {
				duals := []int64{}
				for rest := number; len(duals) < n; rest /= 5 {
					duals = append(duals, int64(rest%5-1))
				}
				if slices.ContainsFunc(involutionsOf(n), func(other []int64) bool { return slices.Equal(duals, other) }) {
					continue
				}
				got, code := impl.RingOfCharacters(m, duals)
				checkRing(t, call("RingOfCharacters with the duals", duals...), got, code, impl.Ring{}, impl.ErrRange)
			}
		}
	}
	four := groupCharacters(4)
	for _, duals := range [][]int64{
		{0, 3, 2}, {0, 3, 2, 1, 4}, {0, 2, 3, 1}, {1, 2, 3, 0}, {0, 0, 0, 0}, {0, 1, 2, 2}, {0, 3, 2, 3}, {1, 1, 2, 3}, {0, 1, 2, -1},
		{0, 1, 2, 4}, {4, 1, 2, 3}, {0, 1 << 32, 2, 3}, {0, 1, 1<<32 + 2, 3}, {math.MinInt64, 1, 2, 3}, {0, 1, 2, math.MaxInt64},
	} {
		got, code := impl.RingOfCharacters(four, duals)
		checkRing(t, call("RingOfCharacters of four with", duals...), got, code, impl.Ring{}, impl.ErrRange)
	}
}

// wantedProductCharacter has x(i) y(k) for all labels i, and k in each of them.
func wantedProductCharacter(x, y []int64) []int64 {
	product := []int64{}
	for _, a := range x {
		product = append(product, multipleOf(a, y)...)
	}
	return product
}

// commutativeFactors has the rings of chapter 6 that make small products, with doubled ones.
func commutativeFactors() []charactered {
	all, list := factors(), []charactered{}
	all["doubled"] = doubled
	for _, name := range slices.Sorted(keysOf(all)) {
		if r := all[name]; commutes(r) && len(r.Table) <= 8 {
			list = append(list, charactered{name, r, wantedCharacters(r)})
		}
	}
	return list
}

func TestCharactersOfProducts(t *testing.T) {
	all, count := commutativeFactors(), 0
	for _, one := range all {
		for _, other := range all {
			r, s := one.ring, other.ring
			product, code := impl.ProductRing(r, s)
			// All greater products take too long.
			isChosen := len(r.Table)*len(s.Table) == 16 && one.name < other.name
			if len(product.Table) > 8 && !isChosen || code != impl.ErrNone {
				continue
			}
			count++
			what, found := "the product "+one.name+" and "+other.name, table{}
			for _, x := range one.characters {
				for _, y := range other.characters {
					got, code := impl.ProductCharacter(r, s, x, y)
					checkList(t, "ProductCharacter of "+what, got, code, wantedProductCharacter(x, y), impl.ErrNone)
					found = append(found, got)
				}
			}
			slices.SortFunc(found, slices.Compare)
			characters, code := impl.CharactersOf(product)
			checkTable(t, "CharactersOf "+what, characters, code, found, impl.ErrNone)
		}
	}
	if count < 200 {
		t.Errorf("there are only %d products", count)
	}
}

func TestProductsOfManyLabels(t *testing.T) {
	// There is no ring of so many labels, but there are the lists.
	sixteen, near := groupCube(16, sums(16)), nearCube(15, sums(15), 999)
	for _, x := range groupCharacters(16)[:4] {
		for _, y := range nearCharacters(999, 15)[:4] {
			got, code := impl.ProductCharacter(sixteen, near, x, y)
			checkList(t, "ProductCharacter of 256 labels", got, code, wantedProductCharacter(x, y), impl.ErrNone)
			got, code = impl.ProductCharacter(near, sixteen, y, x)
			checkList(t, "ProductCharacter of 256 labels", got, code, wantedProductCharacter(y, x), impl.ErrNone)
		}
	}
}

func TestCharactersLeaveArgumentsAlone(t *testing.T) {
	for _, test := range charactersOfRings() {
		if len(test.characters) == 0 || len(test.ring.Table) > 5 {
			continue
		}
		r, rows, duals := roomyRing(test.ring), roomy(test.characters), append(dualsIn(test.ring), 77, 78)[:len(test.ring.Table)]
		whole, wholeRows, wholeDuals := wholeRing(r), wholeOf(rows), slices.Clone(duals[:cap(duals)])
		for _, x := range rows {
			for _, function := range characterFunctions(func(impl.Ring) []int64 { return x }) {
				function(r)
			}
			impl.PairingOf(r, x, rows[0])
			impl.ProductCharacter(r, r, x, rows[0])
		}
		impl.RingOfCharacters(rows, duals)
		impl.RingOfCharacters(rows, duals[:len(duals)-1])
		if !reflect.DeepEqual(wholeRing(r), whole) || !reflect.DeepEqual(wholeOf(rows), wholeRows) {
			t.Errorf("the ring %s became %v, its characters %v", test.name, r, rows)
		}
		if !slices.Equal(duals[:cap(duals)], wholeDuals) {
			t.Errorf("the duals %v became %v", wholeDuals, duals[:cap(duals)])
		}
	}
}

func TestCharactersAreNew(t *testing.T) {
	for _, r := range []impl.Ring{groupCube(1, sums(1)), fibonacci, groupCube(3, sums(3)), groupCube(4, sums(2, 2))} {
		oldRing, duals, one := copyRing(r), dualsIn(r), groupCube(1, sums(1))
		characters := wantedCharacters(r)
		x, old := characters[0], copyTable(characters)
		for name, function := range map[string]func() (table, int64){
			"CharactersOf":       func() (table, int64) { return impl.CharactersOf(r) },
			"MatrixOfCharacters": func() (table, int64) { return impl.MatrixOfCharacters(r) },
		} {
			first, _ := function()
			overwriteRows(t, name, first)
			second, code := function()
			checkTable(t, name+" the second time", second, code, old, impl.ErrNone)
		}
		for name, function := range map[string]func() ([]int64, int64){
			"CodegreesOf":              func() ([]int64, int64) { return impl.CodegreesOf(r) },
			"DualCharacter":            func() ([]int64, int64) { return impl.DualCharacter(r, x) },
			"IdempotentOf":             func() ([]int64, int64) { return impl.IdempotentOf(r, x) },
			"ProductCharacter":         func() ([]int64, int64) { return impl.ProductCharacter(r, one, x, []int64{1}) },
			"ProductCharacter, second": func() ([]int64, int64) { return impl.ProductCharacter(one, r, []int64{1}, x) },
		} {
			first, _ := function()
			want := slices.Clone(first)
			for i := range first {
				first[i] = -7
			}
			second, code := function()
			checkList(t, name+" the second time", second, code, want, impl.ErrNone)
		}
		told, _ := impl.RingOfCharacters(characters, duals)
		overwrite(t, "RingOfCharacters", told)
		told, code := impl.RingOfCharacters(characters, duals)
		checkRing(t, "RingOfCharacters the second time", told, code, oldRing, impl.ErrNone)
		if !reflect.DeepEqual(r, oldRing) || !sameTable(characters, old) || !slices.Equal(duals, dualsIn(r)) {
			t.Errorf("a result shares memory with the ring %v, its characters %v or its duals %v", r, characters, duals)
		}
	}
}

func TestCharactersAtOnce(t *testing.T) {
	r := groupCube(12, sums(3, 4))
	want := groupCharacters(3, 4)
	var workers sync.WaitGroup
	for range 8 {
		workers.Go(func() {
			characters, code := impl.CharactersOf(r)
			checkTable(t, "CharactersOf at once", characters, code, want, impl.ErrNone)
			told, code := impl.RingOfCharacters(characters, dualsIn(r))
			checkRing(t, "RingOfCharacters at once", told, code, r, impl.ErrNone)
		})
	}
	workers.Wait()
}
