package tests

import (
	"math"
	"reflect"
	"slices"
	"strings"
	"sync"
	"testing"

	"loop.example/g01132/impl"
)

const maxListed = 4

func compareRings(r, s impl.Ring) int { return slices.Compare(numbersIn(r), numbersIn(s)) }

// freePlaces has the places of a table of n labels whose numbers neither 0 nor the duals tell.
func freePlaces(n int) [][3]int {
	places := [][3]int{}
	for i := 1; i < n; i++ {
		for j := 1; j < n; j++ {
			for k := 1; k < n; k++ {
				places = append(places, [3]int{i, j, k})
			}
		}
	}
	return places
}

// dualTables has the tables of n labels in which 0 and the numbers at 0 are as in a ring, with other
// numbers 0. What has duals is found by trying.
func dualTables(n int) []impl.Ring {
	tables, m := []impl.Ring{}, n-1
	for pattern := range 1 << (m * m) {
		r := cubeOf(n, func(i, j, k int) int64 {
			switch {
			case i == 0 || j == 0:
				return truth(i+j == k)
			case k == 0:
				return int64(pattern >> ((i-1)*m + j - 1) & 1)
			}
			return 0
		})
		paired := true
		for i := range n {
			paired = paired && isPaired(r, i)
		}
		if paired {
			tables = append(tables, r)
		}
	}
	return tables
}

// multipliesWell tells whether products of labels are associative.
func multipliesWell(r impl.Ring) bool {
	n := len(r.Table)
	for place := range n * n * n * n {
		i, j, k, l := place/n/n/n, place/n/n%n, place/n%n, place%n
		left, right := int64(0), int64(0)
		for m := range n {
			left += r.Table[i][j][m] * r.Table[m][k][l]
			right += r.Table[j][k][m] * r.Table[i][m][l]
		}
		if left != right {
			return false
		}
	}
	return true
}

// triedTables has all rings of n labels with free numbers of at most a bound, in the order of their
// numbers, found by trying all of these numbers.
func triedTables(n int, bound int64) []impl.Ring {
	found, places := []impl.Ring{}, freePlaces(n)
	for _, r := range dualTables(n) {
		for {
			if multipliesWell(r) && wantedFault(r) == nil {
				found = append(found, copyRing(r))
			}
			at := len(places) - 1
			for ; at >= 0; at-- {
				p := places[at]
				number := &r.Table[p[0]][p[1]][p[2]]
				if *number < bound {
					*number++
					break
				}
				*number = 0
			}
			if at < 0 {
				break
			}
		}
	}
	slices.SortFunc(found, compareRings)
	return found
}

// triedUpTo3 has at n the rings of n labels with free numbers of at most 4.
var triedUpTo3 = sync.OnceValue(func() [4][]impl.Ring {
	return [4][]impl.Ring{{}, triedTables(1, maxListed), triedTables(2, maxListed), triedTables(3, maxListed)}
})

// greatestFree is the greatest one of the free numbers of a table, or 0.
func greatestFree(r impl.Ring) int64 {
	greatest := int64(0)
	for _, p := range freePlaces(len(r.Table)) {
		greatest = max(greatest, r.Table[p[0]][p[1]][p[2]])
	}
	return greatest
}

// wantedTables has all rings of n labels with free numbers of at most a bound.
func wantedTables(n, bound int64) []impl.Ring {
	return slices.DeleteFunc(slices.Clone(triedUpTo3()[n]), func(r impl.Ring) bool { return greatestFree(r) > bound })
}

// isLeastForm tells whether no renumbering of a ring is less.
func isLeastForm(r impl.Ring) bool {
	return !slices.ContainsFunc(permutationsOf(len(r.Table)), func(p []int) bool { return compareRings(takeLabels(r, p), r) < 0 })
}

// wantedList has the list of the rank n and a bound.
func wantedList(n, bound int64) []impl.Ring {
	return slices.DeleteFunc(wantedTables(n, bound), func(r impl.Ring) bool { return !isLeastForm(r) })
}

// wantedPlace has the place of a ring with at most three labels in a list, and the code.
func wantedPlace(r impl.Ring, bound int64) (int64, int64) {
	at := slices.IndexFunc(wantedList(int64(len(r.Table)), bound), func(s impl.Ring) bool { return len(isomorphismsBetween(r, s)) > 0 })
	if at < 0 {
		return 0, impl.ErrNotFound
	}
	return int64(at), impl.ErrNone
}

func checkRings(t *testing.T, what string, got []impl.Ring, code int64, want []impl.Ring, wantCode int64) {
	t.Helper()
	equal := slices.EqualFunc(got, want, func(r, s impl.Ring) bool { return slices.EqualFunc(r.Table, s.Table, sameTable) })
	if code != wantCode || !equal {
		t.Errorf("%s = %v, %d, want %v, %d", what, textsOf(got), code, textsOf(want), wantCode)
	}
}

func textsOf(list []impl.Ring) []string {
	texts := []string{}
	for _, r := range list {
		texts = append(texts, textOf(r))
	}
	return texts
}

// allLists calls visit with each rank and each bound of a list.
func allLists(visit func(n, bound int64)) {
	for n := int64(1); n <= 3; n++ {
		for bound := int64(0); bound <= maxListed; bound++ {
			visit(n, bound)
		}
	}
}

func TestConstantsOfChapter7(t *testing.T) {
	if impl.MaxListed != 4 {
		t.Errorf("MaxListed is %d", impl.MaxListed)
	}
}

func TestAllRings(t *testing.T) {
	allLists(func(n, bound int64) {
		got, code := impl.AllRings(n, bound)
		checkRings(t, call("AllRings", n, bound), got, code, wantedList(n, bound), impl.ErrNone)
	})
}

func TestRingsOfLists(t *testing.T) {
	allLists(func(n, bound int64) {
		what := call("AllRings", n, bound)
		list, _ := impl.AllRings(n, bound)
		for at, r := range list {
			if len(r.Table) != int(n) || !impl.IsRing(r) || wantedFault(r) != nil || greatestFree(r) > bound {
				t.Errorf("%s has at %d %v", what, at, r)
				continue
			}
			least, code := impl.LeastRing(r)
			checkRing(t, "LeastRing in "+what, least, code, r, impl.ErrNone)
			if at > 0 && compareRings(list[at-1], r) >= 0 {
				t.Errorf("%s has %s behind %s", what, textOf(r), textOf(list[at-1]))
			}
			for other, s := range list[:at] {
				if _, code := impl.RingIsomorphism(r, s); code != impl.ErrNotFound {
					t.Errorf("%s has isomorphic rings at %d and %d: %d", what, other, at, code)
				}
			}
		}
	})
}

func TestTextsOfLists(t *testing.T) {
	two := []string{"1 0 0 1/0 1 1 0", "1 0 0 1/0 1 1 1", "1 0 0 1/0 1 1 2", "1 0 0 1/0 1 1 3", "1 0 0 1/0 1 1 4"}
	three := []string{
		"1 0 0 0 1 0 0 0 1/0 1 0 0 0 1 1 0 0/0 0 1 1 0 0 0 1 0",
		"1 0 0 0 1 0 0 0 1/0 1 0 1 0 0 0 0 1/0 0 1 0 0 1 1 1 0",
		"1 0 0 0 1 0 0 0 1/0 1 0 1 0 0 0 0 1/0 0 1 0 0 1 1 1 1",
		"1 0 0 0 1 0 0 0 1/0 1 0 1 0 1 0 1 1/0 0 1 0 1 1 1 1 1",
	}
	for _, test := range []struct {
		n, bound int64
		want     []string
	}{
		{1, 0, []string{"1"}}, {1, 1, []string{"1"}}, {1, 2, []string{"1"}}, {1, 3, []string{"1"}}, {1, 4, []string{"1"}},
		{2, 0, two[:1]}, {2, 1, two[:2]}, {2, 2, two[:3]}, {2, 3, two[:4]}, {2, 4, two},
		{3, 0, []string{}}, {3, 1, three},
	} {
		got, code := impl.AllRings(test.n, test.bound)
		if code != impl.ErrNone || !slices.Equal(textsOf(got), test.want) {
			t.Errorf("%s has the texts %v, %d, want %v", call("AllRings", test.n, test.bound), textsOf(got), code, test.want)
		}
	}
}

func TestGreatestList(t *testing.T) {
	// The numbers are N(1, 1, 1), N(1, 1, 2), N(1, 2, 2) and N(2, 2, 2) of the rings with 1* = 1.
	want := []string{"1 0 0 0 1 0 0 0 1/0 1 0 0 0 1 1 0 0/0 0 1 1 0 0 0 1 0"}
	for _, digits := range []string{
		"0010", "0011", "0012", "0013", "0014", "0111", "0124", "0212", "0313", "0324", "0414",
		"1122", "2133", "2233", "3144", "3344",
	} {
		a, b, c, d := digits[:1], digits[1:2], digits[2:3], digits[3:]
		rows := []string{"0", a, b, "0", b, c}
		last := []string{"0", b, c, "1", c, d}
		want = append(want, "1 0 0 0 1 0 0 0 1/0 1 0 1 "+strings.Join(rows[1:], " ")+"/0 0 1 "+strings.Join(last, " "))
	}
	got, code := impl.AllRings(3, 4)
	if code != impl.ErrNone || !slices.Equal(textsOf(got), want) {
		t.Errorf("AllRings(3, 4) has the texts %v, %d, want %v", textsOf(got), code, want)
	}
}

func TestSizesOfLists(t *testing.T) {
	for bound, want := range [][6]int64{{1, 1, 0, 1, 1, 0}, {1, 2, 4, 1, 2, 7}, {1, 3, 7, 1, 3, 13}, {1, 4, 11, 1, 4, 21}, {1, 5, 17, 1, 5, 33}} {
		for n := int64(1); n <= 3; n++ {
			list, code := impl.AllRings(n, int64(bound))
			checkNumber(t, call("the number of AllRings", n, int64(bound)), int64(len(list)), code, want[n-1], impl.ErrNone)
			count, code := impl.CountRingTables(n, int64(bound))
			checkNumber(t, call("CountRingTables", n, int64(bound)), count, code, want[n+2], impl.ErrNone)
		}
	}
}

func TestListsGrow(t *testing.T) {
	allLists(func(n, bound int64) {
		list, _ := impl.AllRings(n, bound)
		for least := range bound {
			smaller, code := impl.AllRings(n, least)
			want := slices.DeleteFunc(slices.Clone(list), func(r impl.Ring) bool { return greatestFree(r) > least })
			checkRings(t, call("AllRings", n, least), smaller, code, want, impl.ErrNone)
		}
	})
}

func TestCountRingTables(t *testing.T) {
	allLists(func(n, bound int64) {
		got, code := impl.CountRingTables(n, bound)
		checkNumber(t, call("CountRingTables", n, bound), got, code, int64(len(wantedTables(n, bound))), impl.ErrNone)
	})
}

// solutions counts the self-dual rings of three labels: with a, b, c and d as N(1, 1, 1), N(1, 1, 2),
// N(1, 2, 2) and N(2, 2, 2), of all products of three labels only those of 1, 1 and 2 tell something,
// which is that b b + c c is 1 + a c + b d.
func solutions(bound int64) int64 {
	count, most := int64(0), bound+1
	for number := range most * most * most * most {
		a, b, c, d := number%most, number/most%most, number/most/most%most, number/most/most/most
		count += truth(b*b+c*c == 1+a*c+b*d)
	}
	return count
}

func TestTablesAreSolutions(t *testing.T) {
	for bound := int64(0); bound <= maxListed; bound++ {
		got, code := impl.CountRingTables(1, bound)
		checkNumber(t, call("CountRingTables", 1, bound), got, code, 1, impl.ErrNone)
		got, code = impl.CountRingTables(2, bound)
		checkNumber(t, call("CountRingTables", 2, bound), got, code, bound+1, impl.ErrNone)
		// With 1* = 2 there is only the group of three elements, which has a free number 1.
		got, code = impl.CountRingTables(3, bound)
		checkNumber(t, call("CountRingTables", 3, bound), got, code, solutions(bound)+truth(bound > 0), impl.ErrNone)
	}
}

func TestTablesAndAutomorphisms(t *testing.T) {
	allLists(func(n, bound int64) {
		list, _ := impl.AllRings(n, bound)
		sum := int64(0)
		for _, r := range list {
			count, code := impl.CountRingAutomorphisms(r)
			checkNumber(t, "CountRingAutomorphisms "+textOf(r), count, code, int64(len(isomorphismsBetween(r, r))), impl.ErrNone)
			if permutations := factorial(int(n - 1)); count > 0 && permutations%count == 0 {
				sum += permutations / count
			} else {
				t.Errorf("%s has %d automorphisms", textOf(r), count)
			}
		}
		got, code := impl.CountRingTables(n, bound)
		checkNumber(t, call("CountRingTables", n, bound), got, code, sum, impl.ErrNone)
	})
}

func TestTablesAreRenumberedLists(t *testing.T) {
	allLists(func(n, bound int64) {
		list, _ := impl.AllRings(n, bound)
		tables := map[string]bool{}
		for _, r := range list {
			for _, p := range permutationsOf(int(n)) {
				tables[textOf(takeLabels(r, p))] = true
			}
		}
		got, code := impl.CountRingTables(n, bound)
		checkNumber(t, call("CountRingTables", n, bound), got, code, int64(len(tables)), impl.ErrNone)
	})
}

// farNumbers has numbers that are neither ranks nor bounds of lists.
var farNumbers = []int64{-1, -2, -3, -4, 5, 6, 16, 1 << 32, 1<<32 + 1, -1 << 32, 1 << 62, math.MinInt64, math.MaxInt64}

func TestListsOutOfRange(t *testing.T) {
	check := func(n, bound int64) {
		list, code := impl.AllRings(n, bound)
		checkRings(t, call("AllRings", n, bound), list, code, nil, impl.ErrRange)
		count, code := impl.CountRingTables(n, bound)
		checkNumber(t, call("CountRingTables", n, bound), count, code, 0, impl.ErrRange)
	}
	for _, n := range append([]int64{0, 4}, farNumbers...) {
		for bound := int64(-1); bound <= 5; bound++ {
			check(n, bound)
		}
		for _, bound := range farNumbers {
			check(n, bound)
		}
	}
	for n := int64(1); n <= 3; n++ {
		for _, bound := range farNumbers {
			check(n, bound)
		}
	}
}

func TestPlacesOfLists(t *testing.T) {
	allLists(func(n, bound int64) {
		list, _ := impl.AllRings(n, bound)
		for at, r := range list {
			for _, p := range permutationsOf(int(n)) {
				other := takeLabels(r, p)
				place, code := impl.PlaceOfRing(other, bound)
				checkNumber(t, call("PlaceOfRing "+textOf(other), bound), place, code, int64(at), impl.ErrNone)
			}
		}
	})
}

func TestPlacesOfAllTables(t *testing.T) {
	own := map[bool]int{}
	for n := range 4 {
		for _, r := range triedUpTo3()[n] {
			own[isLeastForm(r)]++
			for bound := int64(0); bound <= maxListed; bound++ {
				want, wantCode := wantedPlace(r, bound)
				if (wantCode == impl.ErrNone) != (greatestFree(r) <= bound) {
					t.Errorf("the ring %s is of the bound %d: %d", textOf(r), bound, wantCode)
				}
				place, code := impl.PlaceOfRing(r, bound)
				checkNumber(t, call("PlaceOfRing "+textOf(r), bound), place, code, want, wantCode)
			}
		}
	}
	if own[true] != 23 || own[false] != 16 {
		t.Errorf("the least forms are %v", own)
	}
}

func TestKindsOfSmallRings(t *testing.T) {
	others := 0
	for n := range 4 {
		for _, r := range triedUpTo3()[n] {
			commutative, code := impl.IsCommutativeRing(r)
			checkBool(t, "IsCommutativeRing "+textOf(r), commutative, code, true, impl.ErrNone)
			if selfDual, _ := impl.IsSelfDual(r); !selfDual {
				others++
				checkRing(t, "the ring that is not self-dual", r, code, groupCube(3, sums(3)), impl.ErrNone)
			}
		}
	}
	if others != 1 {
		t.Errorf("%d rings are not self-dual", others)
	}
}

func TestChosenPlaces(t *testing.T) {
	even := takeLabels(spinCube(5), []int{0, 2, 4})
	for _, test := range []struct {
		ring        impl.Ring
		bound, want int64
		code        int64
	}{
		{groupCube(1, sums(1)), 0, 0, impl.ErrNone},
		{groupCube(1, sums(1)), 4, 0, impl.ErrNone},
		{groupCube(2, sums(2)), 0, 0, impl.ErrNone},
		{groupCube(2, sums(2)), 4, 0, impl.ErrNone},
		{fibonacci, 0, 0, impl.ErrNotFound},
		{fibonacci, 1, 1, impl.ErrNone},
		{fibonacci, 4, 1, impl.ErrNone},
		{nearCube(1, sums(1), 4), 3, 0, impl.ErrNotFound},
		{nearCube(1, sums(1), 4), 4, 4, impl.ErrNone},
		{nearCube(1, sums(1), 5), 4, 0, impl.ErrNotFound},
		{nearCube(1, sums(1), 1000), 4, 0, impl.ErrNotFound},
		{groupCube(3, sums(3)), 0, 0, impl.ErrNotFound},
		{groupCube(3, sums(3)), 1, 0, impl.ErrNone},
		{groupCube(3, sums(3)), 4, 0, impl.ErrNone},
		{nearCube(2, sums(2), 0), 0, 0, impl.ErrNotFound},
		{nearCube(2, sums(2), 0), 1, 1, impl.ErrNone},
		{spinCube(2), 1, 1, impl.ErrNone},
		{dihedralCube(3), 1, 2, impl.ErrNone},
		{takeLabels(dihedralCube(3), []int{0, 2, 1}), 4, 2, impl.ErrNone},
		{nearCube(2, sums(2), 4), 3, 0, impl.ErrNotFound},
		{nearCube(2, sums(2), 4), 4, 5, impl.ErrNone},
		{nearCube(2, sums(2), 5), 4, 0, impl.ErrNotFound},
		{nearCube(2, sums(2), 1000), 4, 0, impl.ErrNotFound},
		{even, 1, 3, impl.ErrNone},
		{even, 2, 4, impl.ErrNone},
		{takeLabels(even, []int{0, 2, 1}), 3, 5, impl.ErrNone},
		{even, 4, 6, impl.ErrNone},
	} {
		place, code := impl.PlaceOfRing(test.ring, test.bound)
		checkNumber(t, call("PlaceOfRing "+textOf(test.ring), test.bound), place, code, test.want, test.code)
	}
}

func TestPlacesOfGreatNumbers(t *testing.T) {
	count := 0
	for _, r := range slices.Concat(triedTables(2, 20), triedTables(3, 5)) {
		if greatestFree(r) <= maxListed {
			continue
		}
		count++
		for bound := int64(0); bound <= maxListed; bound++ {
			place, code := impl.PlaceOfRing(r, bound)
			checkNumber(t, call("PlaceOfRing "+textOf(r), bound), place, code, 0, impl.ErrNotFound)
		}
	}
	if count < 20 {
		t.Errorf("there are only %d rings", count)
	}
}

func TestPlacesOutOfRange(t *testing.T) {
	ranks := map[int]int{}
	for name, r := range allRings() {
		n := len(r.Table)
		ranks[n]++
		for _, bound := range farNumbers {
			place, code := impl.PlaceOfRing(r, bound)
			checkNumber(t, call("PlaceOfRing "+name, bound), place, code, 0, impl.ErrRange)
		}
		for bound := int64(0); bound <= maxListed && n > 3; bound++ {
			place, code := impl.PlaceOfRing(r, bound)
			checkNumber(t, call("PlaceOfRing "+name, bound), place, code, 0, impl.ErrRange)
		}
	}
	if ranks[1] == 0 || ranks[2] == 0 || ranks[3] == 0 || ranks[4] == 0 || ranks[16] == 0 {
		t.Errorf("the ranks are %v", ranks)
	}
}

func TestPlacesOfWhatIsNoRing(t *testing.T) {
	for _, rings := range []map[string]impl.Ring{noCubes(), noRings()} {
		for what, r := range rings {
			for _, bound := range append([]int64{0, 1, 4}, farNumbers...) {
				place, code := impl.PlaceOfRing(r, bound)
				checkNumber(t, call("PlaceOfRing with "+what, bound), place, code, 0, impl.ErrInvalid)
			}
		}
	}
	// Of the rings of the list each number in turn becomes another one.
	list, _ := impl.AllRings(3, 1)
	for _, r := range list {
		for number := range numbersIn(r) {
			other := copyRing(r)
			other.Table[number/9][number/3%3][number%3] += 2
			place, code := impl.PlaceOfRing(other, 4)
			if wantedFault(other) != nil {
				checkNumber(t, "PlaceOfRing "+textOf(other), place, code, 0, impl.ErrInvalid)
				continue
			}
			want, wantCode := wantedPlace(other, 4)
			checkNumber(t, "PlaceOfRing "+textOf(other), place, code, want, wantCode)
		}
	}
}

func TestListsShareNoMemory(t *testing.T) {
	allLists(func(n, bound int64) {
		what := call("AllRings", n, bound)
		first, _ := impl.AllRings(n, bound)
		second, code := impl.AllRings(n, bound)
		want := []impl.Ring{}
		for _, r := range first {
			want = append(want, copyRing(r))
		}
		for at, r := range first {
			overwrite(t, what, r)
			checkRings(t, what+", behind those overwritten", first[at+1:], code, want[at+1:], impl.ErrNone)
		}
		checkRings(t, what+", the second time", second, code, want, impl.ErrNone)
		third, code := impl.AllRings(n, bound)
		checkRings(t, what+", the third time", third, code, want, impl.ErrNone)
	})
}

func TestPlacesLeaveRingsAlone(t *testing.T) {
	rings := noRings()
	for name, r := range allRings() {
		rings[name] = r
	}
	for at, r := range triedUpTo3()[3] {
		rings[call("tried", int64(at))] = r
	}
	for name, ring := range rings {
		r := roomyRing(ring)
		whole := wholeRing(r)
		for bound := int64(-1); bound <= maxListed+1; bound++ {
			impl.PlaceOfRing(r, bound)
		}
		if !reflect.DeepEqual(wholeRing(r), whole) {
			t.Errorf("the ring %s became %v", name, r)
		}
	}
}

func TestListsAtOnce(t *testing.T) {
	want, r := wantedList(3, 4), takeLabels(nearCube(2, sums(2), 4), []int{0, 2, 1})
	var workers sync.WaitGroup
	for range 8 {
		workers.Go(func() {
			list, code := impl.AllRings(3, 4)
			checkRings(t, "AllRings(3, 4)", list, code, want, impl.ErrNone)
			count, code := impl.CountRingTables(3, 4)
			checkNumber(t, "CountRingTables(3, 4)", count, code, 33, impl.ErrNone)
			place, code := impl.PlaceOfRing(r, 4)
			checkNumber(t, "PlaceOfRing", place, code, 5, impl.ErrNone)
		})
	}
	workers.Wait()
}
