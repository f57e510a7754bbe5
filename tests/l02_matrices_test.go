package tests

import (
	"math"
	"reflect"
	"slices"
	"testing"

	"loop.example/g01132/impl"
)

type table = [][]int64

// sequence makes numbers that follow no simple rule, but are the same in each run.
type sequence struct{ state uint64 }

func (s *sequence) next(limit int64) int64 {
	s.state = s.state*6364136223846793005 + 1442695040888963407
	return int64(s.state >> 33 % uint64(limit))
}

// table makes a matrix of numbers less than limit.
func (s *sequence) table(rows int, columns int, limit int64) table {
	m := tableOf(rows, columns, 0)
	for i := range m {
		for j := range m[i] {
			m[i][j] = s.next(limit)
		}
	}
	return m
}

// poor makes a matrix with a rank of at most rank.
func (s *sequence) poor(rows int, columns int, rank int) table {
	return productOf(s.table(rows, rank, impl.Prime), s.table(rank, columns, impl.Prime))
}

// change makes a matrix of n rows with the determinant 1, and its inverse.
func (s *sequence) change(n int) (table, table) {
	m, inverse := unitTable(n), unitTable(n)
	for range 4 * n {
		i, j, a := int(s.next(int64(n))), int(s.next(int64(n))), s.next(impl.Prime)
		if i == j {
			continue
		}
		step, back := unitTable(n), unitTable(n)
		step[i][j], back[i][j] = a, remainderOf(-a)
		m, inverse = productOf(m, step), productOf(back, inverse)
	}
	return m, inverse
}

func tableOf(rows int, columns int, a int64) table {
	m := make(table, rows)
	for i := range m {
		m[i] = slices.Repeat([]int64{a}, columns)
	}
	return m
}

func diagonalTable(values ...int64) table {
	m := tableOf(len(values), len(values), 0)
	for i, a := range values {
		m[i][i] = a
	}
	return m
}

func unitTable(n int) table {
	return diagonalTable(repeated(1, n)...)
}

func copyTable(m table) table {
	c := make(table, len(m))
	for i := range m {
		c[i] = slices.Clone(m[i])
	}
	return c
}

// sameTable reports whether tables have the same rows; none and nil are the same.
func sameTable(a table, b table) bool {
	return slices.EqualFunc(a, b, slices.Equal[[]int64])
}

func productOf(a table, b table) table {
	c := tableOf(len(a), len(b[0]), 0)
	for i := range a {
		for j := range b[0] {
			for k := range b {
				c[i][j] = remainderOf(c[i][j] + a[i][k]*b[k][j])
			}
		}
	}
	return c
}

func imageOf(a table, v []int64) []int64 {
	w := make([]int64, len(a))
	for i := range a {
		for j := range v {
			w[i] = remainderOf(w[i] + a[i][j]*v[j])
		}
	}
	return w
}

func multipleOf(a int64, v []int64) []int64 {
	w := make([]int64, len(v))
	for i := range v {
		w[i] = remainderOf(a * v[i])
	}
	return w
}

// lessOnDiagonal returns m less a times the unit matrix.
func lessOnDiagonal(m table, a int64) table {
	c := copyTable(m)
	for i := range c {
		c[i][i] = remainderOf(c[i][i] - a)
	}
	return c
}

// minorOf returns m without the row 0 and a column.
func minorOf(m table, column int) table {
	c := copyTable(m[1:])
	for i := range c {
		c[i] = slices.Delete(c[i], column, column+1)
	}
	return c
}

// expanded is the determinant, developed along the row 0.
func expanded(m table) int64 {
	if len(m) == 0 {
		return 1
	}
	sum, sign := int64(0), int64(1)
	for j, a := range m[0] {
		sum = remainderOf(sum + sign*remainderOf(a*expanded(minorOf(m, j))))
		sign = -sign
	}
	return sum
}

// subsets calls visit with all increasing lists of size numbers less than n.
func subsets(n int, size int, visit func([]int)) {
	var extend func(list []int, next int)
	extend = func(list []int, next int) {
		if len(list) == size {
			visit(list)
			return
		}
		for i := next; i < n; i++ {
			extend(append(slices.Clone(list), i), i+1)
		}
	}
	extend(nil, 0)
}

// rankByMinors is the greatest size of a square part whose determinant is not 0.
func rankByMinors(m table) int {
	rank := 0
	for size := 1; size <= min(len(m), len(m[0])); size++ {
		subsets(len(m), size, func(rows []int) {
			subsets(len(m[0]), size, func(columns []int) {
				if rank == size {
					return
				}
				part := tableOf(size, size, 0)
				for i := range rows {
					for j := range columns {
						part[i][j] = m[rows[i]][columns[j]]
					}
				}
				if expanded(part) != 0 {
					rank = size
				}
			})
		})
	}
	return rank
}

// coefficientsOf is the characteristic polynomial: the coefficient of the power n - k is the sum
// of the determinants of all parts with k rows and the same columns, with the sign of k.
func coefficientsOf(m table) []int64 {
	n := len(m)
	c := make([]int64, n+1)
	sign := int64(1)
	for k := 0; k <= n; k++ {
		subsets(n, k, func(places []int) {
			part := tableOf(k, k, 0)
			for i := range places {
				for j := range places {
					part[i][j] = m[places[i]][places[j]]
				}
			}
			c[n-k] = remainderOf(c[n-k] + sign*expanded(part))
		})
		sign = -sign
	}
	return c
}

// fromRoots is the polynomial with given roots.
func fromRoots(roots ...int64) []int64 {
	c := []int64{1}
	for _, a := range roots {
		next := make([]int64, len(c)+1)
		for i := range c {
			next[i+1] = remainderOf(next[i+1] + c[i])
			next[i] = remainderOf(next[i] - a*c[i])
		}
		c = next
	}
	return c
}

// rootsOf tries all numbers.
func rootsOf(c []int64) []int64 {
	roots := []int64{}
	for z := int64(0); z < impl.Prime; z++ {
		value, power := int64(0), int64(1)
		for _, a := range c {
			value += a * power
			power = power * z % impl.Prime
		}
		if value%impl.Prime == 0 {
			roots = append(roots, z)
		}
	}
	return roots
}

// placesOf has the index of the first number other than 0 of each vector, and whether the vectors
// are a reduced basis.
func placesOf(basis table) ([]int, bool) {
	places := []int{}
	for _, v := range basis {
		place := slices.IndexFunc(v, func(a int64) bool { return a != 0 })
		if place < 0 || v[place] != 1 || len(places) > 0 && place <= places[len(places)-1] {
			return nil, false
		}
		places = append(places, place)
	}
	for i, v := range basis {
		for j, place := range places {
			if i != j && v[place] != 0 {
				return nil, false
			}
		}
	}
	return places, true
}

// isMade reports whether v is a sum of multiples of the vectors of a reduced basis.
func isMade(v []int64, basis table, places []int) bool {
	rest := slices.Clone(v)
	for i, place := range places {
		for j := range rest {
			rest[j] = remainderOf(rest[j] - v[place]*basis[i][j])
		}
	}
	return !slices.ContainsFunc(rest, func(a int64) bool { return a != 0 })
}

func checkTable(t *testing.T, what string, got table, code int64, want table, wantCode int64) {
	t.Helper()
	if !sameTable(got, want) || code != wantCode {
		t.Errorf("%s = %v, code %d; want %v, code %d", what, got, code, want, wantCode)
	}
}

func checkList(t *testing.T, what string, got []int64, code int64, want []int64, wantCode int64) {
	t.Helper()
	if !slices.Equal(got, want) || code != wantCode {
		t.Errorf("%s = %v, code %d; want %v, code %d", what, got, code, want, wantCode)
	}
}

// checkSpan checks that a reduced basis has as many vectors as told and makes those of a list; it
// makes no others if the list has this rank.
func checkSpan(t *testing.T, what string, basis table, code int64, list table, rank int) {
	t.Helper()
	places, reduced := placesOf(basis)
	if code != impl.ErrNone || len(basis) != rank || !reduced {
		t.Errorf("%s of %v = %v, code %d; want a reduced basis of %d", what, list, basis, code, rank)
		return
	}
	for _, v := range list {
		if !isMade(v, basis, places) {
			t.Errorf("%s of %v = %v does not make %v", what, list, basis, v)
		}
	}
}

// checkKernel checks that a reduced basis has as many vectors as told, all of them with the product
// 0 with a matrix.
func checkKernel(t *testing.T, what string, basis table, code int64, m table, dimension int) {
	t.Helper()
	if _, reduced := placesOf(basis); code != impl.ErrNone || len(basis) != dimension || !reduced {
		t.Errorf("%s for %v = %v, code %d; want a reduced basis of %d", what, m, basis, code, dimension)
		return
	}
	for _, v := range basis {
		if len(v) != len(m[0]) || !slices.Equal(imageOf(m, v), repeated(0, len(m))) {
			t.Errorf("%s for %v has %v, which is not in the kernel", what, m, v)
		}
	}
}

// squareTables has matrices of many sizes: of full and of less rank, with eigenvalues that are 0,
// occur more than once, or are not there.
func squareTables() []table {
	s := &sequence{1}
	list := []table{
		{{0}}, {{1}}, {{55440}}, {{27720}},
		{{0, 1}, {0, 0}}, {{1, 1}, {0, 1}}, {{0, 1}, {1, 0}}, {{0, 38}, {1, 0}}, {{0, 1}, {1, 1}},
		{{1, 2}, {2, 4}}, {{0, 0}, {0, 5}}, {{55440, 55440}, {55440, 55440}},
		{{0, 1, 0}, {0, 0, 1}, {1, 0, 0}}, {{0, 0, 1}, {0, 0, 0}, {0, 0, 0}}, {{2, 1, 0}, {0, 2, 0}, {0, 0, 3}},
		{{0, 38, 0}, {1, 0, 0}, {0, 0, 7}}, unitTable(4), tableOf(5, 5, 0), tableOf(5, 5, 1),
	}
	for n := 1; n <= 5; n++ {
		for range 3 {
			list = append(list, s.table(n, n, 2), s.table(n, n, 3), s.table(n, n, impl.Prime), s.poor(n, n, (n+1)/2))
		}
	}
	return list
}

// wideTables has matrices with other numbers of columns than rows.
func wideTables() []table {
	s := &sequence{2}
	list := []table{{{1, 2}}, {{1}, {2}}, {{0, 0, 0}}, {{0}, {0}}, {{0, 0, 2, 4}, {0, 0, 1, 2}, {0, 0, 0, 0}}}
	for rows := 1; rows <= 4; rows++ {
		for columns := 1; columns <= 5; columns++ {
			list = append(list, s.table(rows, columns, 2), s.table(rows, columns, impl.Prime), s.poor(rows, columns, 2))
		}
	}
	return list
}

func TestConstantsOfChapter2(t *testing.T) {
	if impl.MaxRows != 16 {
		t.Errorf("MaxRows is %d", impl.MaxRows)
	}
}

// noMatrices has what is not a matrix, apart from a list without rows: rows that are missing, too
// many, too long or of different lengths, and elements that are not numbers.
func noMatrices() []table {
	list := []table{
		{{}}, {nil}, {{}, {}}, {{1}, {}}, {{}, {1}}, {{1}, nil}, {{1, 2}, {3}}, {{1}, {2, 3}}, {{1, 2}, {3, 4}, {5}},
		tableOf(17, 1, 0), tableOf(1, 17, 0), tableOf(17, 17, 0), tableOf(16, 17, 1), tableOf(17, 16, 1), tableOf(1000, 1000, 1),
	}
	for _, a := range noNumbers {
		last := tableOf(16, 16, 1)
		last[15][15] = a
		list = append(list, table{{a}}, table{{1, a}, {0, 1}}, table{{1, 0}, {a, 1}}, last)
	}
	return list
}

func TestIsMatrix(t *testing.T) {
	for _, m := range slices.Concat(squareTables(), wideTables()) {
		if !impl.IsMatrix(m) {
			t.Errorf("%v should be a matrix", m)
		}
	}
	for rows := 1; rows <= 18; rows++ {
		for columns := 0; columns <= 18; columns++ {
			want := rows <= 16 && 1 <= columns && columns <= 16
			if impl.IsMatrix(tableOf(rows, columns, 55440)) != want {
				t.Errorf("IsMatrix for %d rows and %d columns is not %v", rows, columns, want)
			}
		}
	}
	for _, m := range append(noMatrices(), nil, table{}) {
		if impl.IsMatrix(m) {
			t.Errorf("%v should not be a matrix", m)
		}
	}
}

// matrixFunctions has the functions of one matrix, and of those of more arguments what they return
// for one matrix and other arguments that fit, if there are such. Each one also tells whether the
// result beside the code is the zero value.
func matrixFunctions() map[string]func(table) (bool, int64) {
	tables := func(f func(table) (table, int64)) func(table) (bool, int64) {
		return func(m table) (bool, int64) {
			result, code := f(m)
			return len(result) == 0, code
		}
	}
	integers := func(f func(table) (int64, int64)) func(table) (bool, int64) {
		return func(m table) (bool, int64) {
			result, code := f(m)
			return result == 0, code
		}
	}
	lists := func(f func(table) ([]int64, int64)) func(table) (bool, int64) {
		return func(m table) (bool, int64) {
			result, code := f(m)
			return len(result) == 0, code
		}
	}
	return map[string]func(table) (bool, int64){
		"MultiplyMatrices, first":  tables(func(m table) (table, int64) { return impl.MultiplyMatrices(m, table{{1, 0}, {0, 1}}) }),
		"MultiplyMatrices, second": tables(func(m table) (table, int64) { return impl.MultiplyMatrices(table{{1, 0}, {0, 1}}, m) }),
		"MultiplyMatrices, both":   tables(func(m table) (table, int64) { return impl.MultiplyMatrices(m, m) }),
		"TransposeMatrix":          tables(impl.TransposeMatrix),
		"ApplyMatrix":              lists(func(m table) ([]int64, int64) { return impl.ApplyMatrix(m, []int64{1, 1}) }),
		"ApplyMatrix, no vector":   lists(func(m table) ([]int64, int64) { return impl.ApplyMatrix(m, nil) }),
		"ApplyMatrix, no numbers":  lists(func(m table) ([]int64, int64) { return impl.ApplyMatrix(m, []int64{-1, impl.Prime}) }),
		"Determinant":              integers(impl.Determinant),
		"RankOf":                   integers(impl.RankOf),
		"TraceOf":                  integers(impl.TraceOf),
		"InverseMatrix":            tables(impl.InverseMatrix),
		"PowerMatrix":              tables(func(m table) (table, int64) { return impl.PowerMatrix(m, 2) }),
		"PowerMatrix, exponent -1": tables(func(m table) (table, int64) { return impl.PowerMatrix(m, -1) }),
		"KernelBasis":              tables(impl.KernelBasis),
		"CharacteristicPolynomial": lists(impl.CharacteristicPolynomial),
		"EigenvaluesOf":            lists(impl.EigenvaluesOf),
		"EigenspaceOf":             tables(func(m table) (table, int64) { return impl.EigenspaceOf(m, 1) }),
		"EigenspaceOf, no number":  tables(func(m table) (table, int64) { return impl.EigenspaceOf(m, impl.Prime) }),
		"IsDiagonalizable": func(m table) (bool, int64) {
			result, code := impl.IsDiagonalizable(m)
			return !result, code
		},
		"CommonSpace":            tables(func(m table) (table, int64) { return impl.CommonSpace([]table{m}, []int64{1}) }),
		"CommonSpace, no values": tables(func(m table) (table, int64) { return impl.CommonSpace([]table{m}, nil) }),
		"CommonSpace, last": tables(func(m table) (table, int64) {
			return impl.CommonSpace([]table{{{1, 0}, {0, 1}}, {{1, 2}}, m}, []int64{1, impl.Prime})
		}),
		"CommonSpace, too many": tables(func(m table) (table, int64) {
			return impl.CommonSpace(append(slices.Repeat([]table{{{1}}}, 17), m), repeated(1, 18))
		}),
	}
}

func TestNoMatrices(t *testing.T) {
	for name, function := range matrixFunctions() {
		for _, m := range append(noMatrices(), nil, table{}) {
			if zero, code := function(m); !zero || code != impl.ErrInvalid {
				t.Errorf("%s for %v: zero %v, code %d", name, m, zero, code)
			}
		}
	}
}

func TestMatricesThatAreNotSquare(t *testing.T) {
	functions := matrixFunctions()
	for _, name := range []string{
		"Determinant", "TraceOf", "InverseMatrix", "PowerMatrix", "PowerMatrix, exponent -1", "CharacteristicPolynomial",
		"EigenvaluesOf", "EigenspaceOf", "EigenspaceOf, no number", "IsDiagonalizable", "CommonSpace", "CommonSpace, no values",
	} {
		for _, m := range []table{{{1, 2}}, {{1}, {2}}, {{0, 0}}, tableOf(16, 15, 1), tableOf(15, 16, 1), tableOf(1, 16, 0), tableOf(16, 1, 0)} {
			if zero, code := functions[name](m); !zero || code != impl.ErrRange {
				t.Errorf("%s for %v: zero %v, code %d", name, m, zero, code)
			}
		}
	}
}

func TestMultiplyMatrices(t *testing.T) {
	s := &sequence{3}
	sizes := []int{1, 2, 3, 7, 15, 16}
	for _, i := range sizes {
		for _, j := range sizes {
			for _, k := range sizes {
				a, b := s.table(i, j, impl.Prime), s.table(j, k, impl.Prime)
				got, code := impl.MultiplyMatrices(a, b)
				checkTable(t, "MultiplyMatrices", got, code, productOf(a, b), impl.ErrNone)
			}
		}
	}
	// The greatest sums, and the order of the factors.
	got, code := impl.MultiplyMatrices(tableOf(16, 16, 55440), tableOf(16, 16, 55440))
	checkTable(t, "MultiplyMatrices", got, code, tableOf(16, 16, 16), impl.ErrNone)
	got, code = impl.MultiplyMatrices(table{{0, 1}, {0, 0}}, table{{0, 0}, {1, 0}})
	checkTable(t, "MultiplyMatrices", got, code, table{{1, 0}, {0, 0}}, impl.ErrNone)
}

func TestMultiplyMatricesErrors(t *testing.T) {
	for i := 1; i <= 16; i++ {
		for j := 1; j <= 16; j++ {
			_, code := impl.MultiplyMatrices(tableOf(2, i, 1), tableOf(j, 3, 1))
			if want := int64(impl.ErrRange); i != j && code != want || i == j && code != impl.ErrNone {
				t.Errorf("MultiplyMatrices for %d columns and %d rows: code %d", i, j, code)
			}
		}
	}
	got, code := impl.MultiplyMatrices(table{{1, 2}}, table{{1, 2}})
	checkTable(t, "MultiplyMatrices", got, code, nil, impl.ErrRange)
	got, code = impl.MultiplyMatrices(table{{1, 2}}, table{{-1}})
	checkTable(t, "MultiplyMatrices", got, code, nil, impl.ErrInvalid)
	got, code = impl.MultiplyMatrices(table{{-1}}, table{{1, 2}, {3, 4}})
	checkTable(t, "MultiplyMatrices", got, code, nil, impl.ErrInvalid)
}

func TestTransposeMatrix(t *testing.T) {
	s := &sequence{4}
	for rows := 1; rows <= 16; rows++ {
		for columns := 1; columns <= 16; columns++ {
			m := s.table(rows, columns, impl.Prime)
			want := tableOf(columns, rows, 0)
			for i := range m {
				for j := range m[i] {
					want[j][i] = m[i][j]
				}
			}
			got, code := impl.TransposeMatrix(m)
			checkTable(t, "TransposeMatrix", got, code, want, impl.ErrNone)
		}
	}
}

func TestApplyMatrix(t *testing.T) {
	s := &sequence{5}
	for rows := 1; rows <= 16; rows++ {
		for columns := 1; columns <= 16; columns++ {
			m, v := s.table(rows, columns, impl.Prime), s.table(1, columns, impl.Prime)[0]
			got, code := impl.ApplyMatrix(m, v)
			checkList(t, "ApplyMatrix", got, code, imageOf(m, v), impl.ErrNone)
		}
	}
	got, code := impl.ApplyMatrix(table{{1, 2}, {0, 3}}, []int64{1, 1})
	checkList(t, "ApplyMatrix({{1, 2}, {0, 3}}, {1, 1})", got, code, []int64{3, 3}, impl.ErrNone)
}

func TestApplyMatrixErrors(t *testing.T) {
	for columns := 1; columns <= 16; columns++ {
		for length := 0; length <= 18; length++ {
			if length == columns {
				continue
			}
			got, code := impl.ApplyMatrix(tableOf(3, columns, 1), repeated(1, length))
			checkList(t, "ApplyMatrix", got, code, nil, impl.ErrRange)
		}
	}
	for _, a := range noNumbers {
		for _, v := range [][]int64{{a, 0}, {0, a}, {a, a}} {
			got, code := impl.ApplyMatrix(table{{0, 0}}, v)
			checkList(t, "ApplyMatrix", got, code, nil, impl.ErrRange)
		}
	}
}

func TestDeterminant(t *testing.T) {
	for _, m := range squareTables() {
		n, code := impl.Determinant(m)
		checkNumber(t, "Determinant", n, code, expanded(m), impl.ErrNone)
	}
	s := &sequence{6}
	for range 5 {
		m := s.table(7, 7, impl.Prime)
		n, code := impl.Determinant(m)
		checkNumber(t, "Determinant", n, code, expanded(m), impl.ErrNone)
	}
}

// permutationTable has in each row i 1 in the column to[i], and the sign of this permutation.
func permutationTable(to []int) (table, int64) {
	m, sign := tableOf(len(to), len(to), 0), int64(1)
	for i, j := range to {
		m[i][j] = 1
		for _, k := range to[:i] {
			if k > j {
				sign = remainderOf(-sign)
			}
		}
	}
	return m, sign
}

func TestDeterminantsOf16Rows(t *testing.T) {
	s := &sequence{7}
	for range 20 {
		upper, product := s.table(16, 16, impl.Prime), int64(1)
		for i := range upper {
			clear(upper[i][:i])
			product = product * upper[i][i] % impl.Prime
		}
		to := []int{}
		for i := range 16 {
			to = slices.Insert(to, int(s.next(int64(i+1))), i)
		}
		order, sign := permutationTable(to)
		n, code := impl.Determinant(order)
		checkNumber(t, "Determinant of a permutation", n, code, sign, impl.ErrNone)
		change, back := s.change(16)
		m := productOf(order, productOf(change, productOf(upper, back)))
		n, code = impl.Determinant(m)
		checkNumber(t, "Determinant of a product", n, code, sign*product%impl.Prime, impl.ErrNone)
		n, code = impl.Determinant(s.poor(16, 16, 15))
		checkNumber(t, "Determinant of a singular matrix", n, code, 0, impl.ErrNone)
	}
}

func TestRankOf(t *testing.T) {
	for _, m := range slices.Concat(squareTables(), wideTables()) {
		n, code := impl.RankOf(m)
		checkNumber(t, "RankOf", n, code, int64(rankByMinors(m)), impl.ErrNone)
	}
	s := &sequence{8}
	for rank := 1; rank <= 16; rank++ {
		from, _ := s.change(16)
		to, _ := s.change(16)
		middle := diagonalTable(append(repeated(1, rank), repeated(0, 16-rank)...)...)
		n, code := impl.RankOf(productOf(from, productOf(middle, to)))
		checkNumber(t, "RankOf", n, code, int64(rank), impl.ErrNone)
	}
	n, code := impl.RankOf(tableOf(16, 16, 0))
	checkNumber(t, "RankOf zeros", n, code, 0, impl.ErrNone)
}

func TestTraceOf(t *testing.T) {
	s := &sequence{9}
	for n := 1; n <= 16; n++ {
		m, want := s.table(n, n, impl.Prime), int64(0)
		for i := range m {
			want = remainderOf(want + m[i][i])
		}
		got, code := impl.TraceOf(m)
		checkNumber(t, "TraceOf", got, code, want, impl.ErrNone)
	}
	got, code := impl.TraceOf(tableOf(16, 16, 55440))
	checkNumber(t, "TraceOf", got, code, 55441-16, impl.ErrNone)
}

func TestInverseMatrix(t *testing.T) {
	for _, m := range squareTables() {
		got, code := impl.InverseMatrix(m)
		if expanded(m) == 0 {
			checkTable(t, "InverseMatrix of a singular matrix", got, code, nil, impl.ErrState)
			continue
		}
		if code != impl.ErrNone || len(got) != len(m) {
			t.Errorf("InverseMatrix(%v) = %v, code %d", m, got, code)
			continue
		}
		checkTable(t, "the product of a matrix and its inverse", productOf(m, got), code, unitTable(len(m)), impl.ErrNone)
		checkTable(t, "the product of an inverse and its matrix", productOf(got, m), code, unitTable(len(m)), impl.ErrNone)
	}
}

func TestInversesOf16Rows(t *testing.T) {
	s := &sequence{10}
	for n := 6; n <= 16; n++ {
		m, want := s.change(n)
		got, code := impl.InverseMatrix(m)
		checkTable(t, "InverseMatrix", got, code, want, impl.ErrNone)
		to := []int{}
		for i := range n {
			to = slices.Insert(to, int(s.next(int64(i+1))), i)
		}
		order, _ := permutationTable(to)
		back, _ := impl.TransposeMatrix(order)
		got, code = impl.InverseMatrix(order)
		checkTable(t, "InverseMatrix of a permutation", got, code, back, impl.ErrNone)
		got, code = impl.InverseMatrix(s.poor(n, n, n-1))
		checkTable(t, "InverseMatrix of a singular matrix", got, code, nil, impl.ErrState)
		clear(m[n-1])
		got, code = impl.InverseMatrix(m)
		checkTable(t, "InverseMatrix with a row of zeros", got, code, nil, impl.ErrState)
	}
}

func TestPowerMatrix(t *testing.T) {
	for _, m := range append(squareTables(), (&sequence{11}).table(16, 16, impl.Prime)) {
		want := unitTable(len(m))
		for k := int64(0); k <= 20; k++ {
			got, code := impl.PowerMatrix(m, k)
			checkTable(t, "PowerMatrix", got, code, want, impl.ErrNone)
			want = productOf(want, m)
		}
	}
}

func TestGreatestExponentsOfMatrices(t *testing.T) {
	m := table{{0, 1}, {1, 1}}
	want := unitTable(2)
	for range 999999 {
		want = table{want[1], {(want[0][0] + want[1][0]) % impl.Prime, (want[0][1] + want[1][1]) % impl.Prime}}
	}
	got, code := impl.PowerMatrix(m, 999999)
	checkTable(t, "PowerMatrix with 999999", got, code, want, impl.ErrNone)
	got, code = impl.PowerMatrix(m, 1000000)
	checkTable(t, "PowerMatrix with 1000000", got, code, productOf(want, m), impl.ErrNone)
	got, code = impl.PowerMatrix(tableOf(16, 16, 0), 0)
	checkTable(t, "PowerMatrix of zeros with 0", got, code, unitTable(16), impl.ErrNone)
	got, code = impl.PowerMatrix(tableOf(16, 16, 0), 1000000)
	checkTable(t, "PowerMatrix of zeros with 1000000", got, code, tableOf(16, 16, 0), impl.ErrNone)
	for _, k := range []int64{-1, -1000000, 1000001, 1 << 40, math.MaxInt64, math.MinInt64} {
		got, code = impl.PowerMatrix(m, k)
		checkTable(t, call("PowerMatrix", k), got, code, nil, impl.ErrRange)
	}
}

func TestSpanBasis(t *testing.T) {
	for _, m := range slices.Concat(squareTables(), wideTables()) {
		got, code := impl.SpanBasis(m)
		checkSpan(t, "SpanBasis", got, code, m, rankByMinors(m))
	}
	s := &sequence{12}
	for rank := 1; rank <= 16; rank++ {
		change, _ := s.change(16)
		list := productOf(change, append(s.poor(rank, 16, rank), tableOf(16-rank, 16, 0)...))
		got, code := impl.SpanBasis(list)
		checkSpan(t, "SpanBasis", got, code, list, rank)
	}
	for _, list := range []table{nil, {}, {{0}}, {{0, 0}, {0, 0}}, tableOf(16, 16, 0)} {
		got, code := impl.SpanBasis(list)
		checkTable(t, "SpanBasis", got, code, nil, impl.ErrNone)
	}
	got, code := impl.SpanBasis(table{{0, 2, 4, 0}, {0, 1, 2, 3}})
	checkTable(t, "SpanBasis", got, code, table{{0, 1, 2, 0}, {0, 0, 0, 1}}, impl.ErrNone)
}

func TestNoListsOfVectors(t *testing.T) {
	for _, list := range noMatrices() {
		got, code := impl.SpanBasis(list)
		checkTable(t, "SpanBasis", got, code, nil, impl.ErrInvalid)
	}
}

func TestKernelBasis(t *testing.T) {
	for _, m := range slices.Concat(squareTables(), wideTables()) {
		got, code := impl.KernelBasis(m)
		checkKernel(t, "KernelBasis", got, code, m, len(m[0])-rankByMinors(m))
	}
	s := &sequence{13}
	for rank := 1; rank <= 16; rank++ {
		m := s.poor(16, 16, rank)
		n, _ := impl.RankOf(m)
		got, code := impl.KernelBasis(m)
		checkKernel(t, "KernelBasis", got, code, m, 16-int(n))
	}
	got, code := impl.KernelBasis(table{{1, 2}})
	checkTable(t, "KernelBasis({{1, 2}})", got, code, table{{1, 27720}}, impl.ErrNone)
	got, code = impl.KernelBasis(tableOf(16, 16, 0))
	checkTable(t, "KernelBasis of zeros", got, code, unitTable(16), impl.ErrNone)
	got, code = impl.KernelBasis(unitTable(16))
	checkTable(t, "KernelBasis of the unit matrix", got, code, nil, impl.ErrNone)
	got, code = impl.KernelBasis(table{{0, 0, 1, 0}})
	checkTable(t, "KernelBasis", got, code, table{{1, 0, 0, 0}, {0, 1, 0, 0}, {0, 0, 0, 1}}, impl.ErrNone)
}

// putIn is the value of a polynomial for a matrix in place of z.
func putIn(c []int64, m table) table {
	sum, power := tableOf(len(m), len(m), 0), unitTable(len(m))
	for _, a := range c {
		for i := range sum {
			for j := range sum {
				sum[i][j] = remainderOf(sum[i][j] + a*power[i][j])
			}
		}
		power = productOf(power, m)
	}
	return sum
}

func TestCharacteristicPolynomial(t *testing.T) {
	for _, m := range squareTables() {
		got, code := impl.CharacteristicPolynomial(m)
		checkList(t, "CharacteristicPolynomial", got, code, coefficientsOf(m), impl.ErrNone)
		checkTable(t, "a matrix in its polynomial", putIn(got, m), code, tableOf(len(m), len(m), 0), impl.ErrNone)
	}
	s := &sequence{14}
	for n := 6; n <= 16; n++ {
		values := s.table(1, n, impl.Prime)[0]
		change, back := s.change(n)
		got, code := impl.CharacteristicPolynomial(productOf(change, productOf(diagonalTable(values...), back)))
		checkList(t, "CharacteristicPolynomial", got, code, fromRoots(values...), impl.ErrNone)
		m := s.table(n, n, impl.Prime)
		got, code = impl.CharacteristicPolynomial(m)
		checkTable(t, "a matrix in its polynomial", putIn(got, m), code, tableOf(n, n, 0), impl.ErrNone)
	}
	got, code := impl.CharacteristicPolynomial(table{{0, 1}, {1, 1}})
	checkList(t, "CharacteristicPolynomial({{0, 1}, {1, 1}})", got, code, []int64{55440, 55440, 1}, impl.ErrNone)
}

// companion is a matrix with a given characteristic polynomial.
func companion(c []int64) table {
	n := len(c) - 1
	m := tableOf(n, n, 0)
	for i := range m {
		m[i][n-1] = remainderOf(-c[i])
		if i > 0 {
			m[i][i-1] = 1
		}
	}
	return m
}

func TestEigenvaluesOf(t *testing.T) {
	for _, m := range squareTables() {
		got, code := impl.EigenvaluesOf(m)
		checkList(t, "EigenvaluesOf", got, code, rootsOf(coefficientsOf(m)), impl.ErrNone)
	}
	s := &sequence{15}
	for n := 6; n <= 16; n++ {
		// The ends of the range, and values that occur twice, are among them.
		values := append([]int64{55440, 0, 0, 5, 5}, s.table(1, n-5, impl.Prime)[0]...)
		want := slices.Compact(slices.Sorted(slices.Values(values)))
		change, back := s.change(n)
		got, code := impl.EigenvaluesOf(productOf(change, productOf(diagonalTable(values...), back)))
		checkList(t, "EigenvaluesOf", got, code, want, impl.ErrNone)
		got, code = impl.EigenvaluesOf(companion(fromRoots(values...)))
		checkList(t, "EigenvaluesOf a companion", got, code, want, impl.ErrNone)
	}
	got, code := impl.EigenvaluesOf(table{{0, 1}, {1, 0}})
	checkList(t, "EigenvaluesOf({{0, 1}, {1, 0}})", got, code, []int64{1, 55440}, impl.ErrNone)
	// 38 is not a square.
	got, code = impl.EigenvaluesOf(table{{0, 38}, {1, 0}})
	checkList(t, "EigenvaluesOf without eigenvalues", got, code, nil, impl.ErrNone)
	got, code = impl.EigenvaluesOf(tableOf(16, 16, 0))
	checkList(t, "EigenvaluesOf zeros", got, code, []int64{0}, impl.ErrNone)
}

func TestEigenspaceOf(t *testing.T) {
	for _, m := range squareTables() {
		values := rootsOf(coefficientsOf(m))
		for _, a := range values {
			less := lessOnDiagonal(m, a)
			got, code := impl.EigenspaceOf(m, a)
			checkKernel(t, "EigenspaceOf", got, code, less, len(m)-rankByMinors(less))
			for _, v := range got {
				image, _ := impl.ApplyMatrix(m, v)
				checkList(t, "the product with an eigenvector", image, code, multipleOf(a, v), impl.ErrNone)
			}
		}
		for _, a := range someNumbers {
			if got, code := impl.EigenspaceOf(m, a); !slices.Contains(values, a) {
				checkTable(t, call("EigenspaceOf", a), got, code, nil, impl.ErrNotFound)
			}
		}
		for _, a := range noNumbers {
			got, code := impl.EigenspaceOf(m, a)
			checkTable(t, call("EigenspaceOf", a), got, code, nil, impl.ErrRange)
		}
	}
}

// columnsOf has those columns of m whose value is the given one.
func columnsOf(m table, values []int64, value int64) table {
	list := table{}
	for j, a := range values {
		if a != value {
			continue
		}
		column := []int64{}
		for i := range m {
			column = append(column, m[i][j])
		}
		list = append(list, column)
	}
	return list
}

func TestEigenspacesOf16Rows(t *testing.T) {
	s := &sequence{16}
	values := []int64{0, 0, 0, 1, 1, 2, 55440, 55440, 7, 7, 7, 7, 7, 9, 10, 11}
	change, back := s.change(16)
	m := productOf(change, productOf(diagonalTable(values...), back))
	all := table{}
	for _, a := range slices.Compact(slices.Sorted(slices.Values(values))) {
		list := columnsOf(change, values, a)
		got, code := impl.EigenspaceOf(m, a)
		checkSpan(t, call("EigenspaceOf", a), got, code, list, len(list))
		all = append(all, got...)
	}
	// Eigenspaces of different eigenvalues have only 0 in common.
	n, code := impl.RankOf(all)
	checkNumber(t, "RankOf all eigenvectors", n, code, 16, impl.ErrNone)
	diagonal, code := impl.IsDiagonalizable(m)
	if !diagonal || code != impl.ErrNone {
		t.Errorf("IsDiagonalizable is %v, code %d", diagonal, code)
	}
	for _, a := range []int64{3, 4, 5, 12, 55439} {
		got, code := impl.EigenspaceOf(m, a)
		checkTable(t, call("EigenspaceOf", a), got, code, nil, impl.ErrNotFound)
	}
}

func TestIsDiagonalizable(t *testing.T) {
	for _, m := range squareTables() {
		vectors := 0
		for _, a := range rootsOf(coefficientsOf(m)) {
			vectors += len(m) - rankByMinors(lessOnDiagonal(m, a))
		}
		got, code := impl.IsDiagonalizable(m)
		if got != (vectors == len(m)) || code != impl.ErrNone {
			t.Errorf("IsDiagonalizable(%v) = %v, code %d", m, got, code)
		}
	}
	block := tableOf(16, 16, 0)
	block[0][15] = 1
	part := diagonalTable(slices.Concat(repeated(3, 14), repeated(0, 2))...)
	part[14][15], part[15][14] = 38, 1
	for what, m := range map[string]table{"a step": block, "a part without eigenvalues": part, "a root twice": companion(fromRoots(1, 1, 2, 3))} {
		if got, code := impl.IsDiagonalizable(m); got || code != impl.ErrNone {
			t.Errorf("IsDiagonalizable for %s = %v, code %d", what, got, code)
		}
	}
	for what, m := range map[string]table{"zeros": tableOf(16, 16, 0), "units": unitTable(16), "roots": companion(fromRoots(0, 1, 2, 3, 55440))} {
		if got, code := impl.IsDiagonalizable(m); !got || code != impl.ErrNone {
			t.Errorf("IsDiagonalizable for %s = %v, code %d", what, got, code)
		}
	}
}

func TestCommonSpace(t *testing.T) {
	s := &sequence{17}
	for _, n := range []int{1, 2, 5, 16} {
		for count := 1; count <= 16; count++ {
			change, back := s.change(n)
			list, keys, values := []table{}, repeated(0, n), []int64{}
			for k := range count {
				// Numbers less than 2 are often the same for several columns.
				diagonal := s.table(1, n, 2)[0]
				if k%3 == 1 {
					diagonal = repeated(diagonal[0], n)
				}
				list = append(list, productOf(change, productOf(diagonalTable(diagonal...), back)))
				values = append(values, diagonal[0])
				for j := range keys {
					if diagonal[j] != diagonal[0] {
						keys[j] = 1
					}
				}
			}
			want := columnsOf(change, keys, 0)
			got, code := impl.CommonSpace(list, values)
			checkSpan(t, "CommonSpace", got, code, want, len(want))
		}
	}
}

func TestCommonSpacesOfAnyMatrices(t *testing.T) {
	for _, m := range squareTables() {
		for _, a := range []int64{0, 1, 7} {
			less := lessOnDiagonal(m, a)
			got, code := impl.CommonSpace([]table{m}, []int64{a})
			checkKernel(t, "CommonSpace", got, code, less, len(m)-rankByMinors(less))
			turned, _ := impl.TransposeMatrix(m)
			both := append(less, lessOnDiagonal(turned, a)...)
			got, code = impl.CommonSpace([]table{m, turned}, []int64{a, a})
			checkKernel(t, "CommonSpace", got, code, both, len(m)-rankByMinors(both))
		}
	}
	got, code := impl.CommonSpace(slices.Repeat([]table{tableOf(16, 16, 0)}, 16), repeated(0, 16))
	checkTable(t, "CommonSpace of zeros", got, code, unitTable(16), impl.ErrNone)
	got, code = impl.CommonSpace(slices.Repeat([]table{unitTable(16)}, 16), append(repeated(1, 15), 2))
	checkTable(t, "CommonSpace with a number that is no eigenvalue", got, code, nil, impl.ErrNone)
}

func TestCommonSpaceErrors(t *testing.T) {
	one := table{{1}}
	for _, test := range []struct {
		list   []table
		values []int64
		code   int64
	}{
		{nil, nil, impl.ErrRange},
		{[]table{}, []int64{1}, impl.ErrRange},
		{slices.Repeat([]table{one}, 17), repeated(1, 17), impl.ErrRange},
		{slices.Repeat([]table{one}, 16), repeated(1, 17), impl.ErrRange},
		{slices.Repeat([]table{one}, 16), repeated(1, 15), impl.ErrRange},
		{[]table{one}, nil, impl.ErrRange},
		{[]table{one, unitTable(2)}, []int64{1, 1}, impl.ErrRange},
		{[]table{one, {{1, 2}}}, []int64{1, 1}, impl.ErrRange},
		{[]table{unitTable(2), {{1, 2}}}, []int64{1, 1}, impl.ErrRange},
		{[]table{unitTable(2), {{1}, {2}}}, []int64{1, 1}, impl.ErrRange},
		{[]table{{{1, 2}}, {{1, 2}}}, []int64{1, 1}, impl.ErrRange},
		{[]table{one, nil}, nil, impl.ErrInvalid},
		{[]table{unitTable(2), {{1, 2}}, {{-1}}}, []int64{-1}, impl.ErrInvalid},
		{append(slices.Repeat([]table{one}, 17), table{}), nil, impl.ErrInvalid},
	} {
		got, code := impl.CommonSpace(test.list, test.values)
		checkTable(t, "CommonSpace", got, code, nil, test.code)
	}
	for _, a := range noNumbers {
		got, code := impl.CommonSpace([]table{one, one}, []int64{1, a})
		checkTable(t, call("CommonSpace", 1, a), got, code, nil, impl.ErrRange)
	}
}

// roomy copies a table into rows, and a list of rows, with room behind them, all of it filled.
func roomy(m table) table {
	rows := tableOf(len(m)+2, 1, 77)[:len(m)]
	for i := range m {
		rows[i] = append(slices.Clone(m[i]), 78, 79)[:len(m[i])]
	}
	return rows
}

// wholeOf copies a table with the room behind its rows.
func wholeOf(m table) table {
	whole := slices.Clone(m[:cap(m)])
	for i := range whole {
		whole[i] = slices.Clone(whole[i][:cap(whole[i])])
	}
	return whole
}

func TestMatricesAreNotModified(t *testing.T) {
	a, b := roomy(table{{0, 2, 4}, {1, 1, 0}, {0, 1, 2}}), roomy(table{{0, 0, 2}, {0, 3, 0}, {5, 0, 0}})
	v := append([]int64{4, 5, 6}, 7, 8)[:3]
	wholeA, wholeB, wholeV := wholeOf(a), wholeOf(b), slices.Clone(v[:cap(v)])
	for _, function := range matrixFunctions() {
		function(a)
		function(b)
	}
	impl.MultiplyMatrices(a, b)
	impl.ApplyMatrix(a, v)
	impl.SpanBasis(a)
	impl.SpanBasis(b)
	list, values := []table{a, b, nil}[:2], []int64{0, 0, 9}[:2]
	impl.CommonSpace(list, values)
	if !reflect.DeepEqual(wholeOf(a), wholeA) || !reflect.DeepEqual(wholeOf(b), wholeB) || !slices.Equal(v[:cap(v)], wholeV) {
		t.Errorf("arguments became %v, %v, %v", a, b, v)
	}
	if list[:3][2] != nil || !slices.Equal(values[:3], []int64{0, 0, 9}) {
		t.Errorf("lists became %v, %v", list[:3], values[:3])
	}
}

func TestResultsShareNoMemory(t *testing.T) {
	a, unit := table{{2, 0, 0}, {0, 1, 0}, {0, 0, 1}}, unitTable(3)
	functions := map[string]func() (table, int64){
		"MultiplyMatrices": func() (table, int64) { return impl.MultiplyMatrices(a, unit) },
		"TransposeMatrix":  func() (table, int64) { return impl.TransposeMatrix(a) },
		"InverseMatrix":    func() (table, int64) { return impl.InverseMatrix(unit) },
		"PowerMatrix, 0":   func() (table, int64) { return impl.PowerMatrix(a, 0) },
		"PowerMatrix, 1":   func() (table, int64) { return impl.PowerMatrix(a, 1) },
		"SpanBasis":        func() (table, int64) { return impl.SpanBasis(unit) },
		"KernelBasis":      func() (table, int64) { return impl.KernelBasis(table{{0, 0, 0}}) },
		"EigenspaceOf":     func() (table, int64) { return impl.EigenspaceOf(a, 1) },
		"CommonSpace":      func() (table, int64) { return impl.CommonSpace([]table{a, unit}, []int64{1, 1}) },
	}
	oldA, oldUnit := copyTable(a), copyTable(unit)
	for name, function := range functions {
		got, _ := function()
		want := copyTable(got)
		for i := range got {
			// What is written into a row and behind it is seen nowhere else.
			row := append(got[i], 5, 5, 5)
			for j := range row {
				row[j] = 5
			}
			for j := range got[i] {
				got[i][j] = 5
			}
			want[i] = repeated(5, len(want[i]))
			if !sameTable(got, want) {
				t.Errorf("%s: rows share memory: %v", name, got)
			}
		}
		if !sameTable(a, oldA) || !sameTable(unit, oldUnit) {
			t.Errorf("%s shares memory with its arguments", name)
		}
	}
	v := []int64{1, 2, 3}
	image, _ := impl.ApplyMatrix(unit, v)
	image[0] = 5
	if v[0] != 1 {
		t.Errorf("ApplyMatrix shares memory with its argument")
	}
}

func TestMatricesAtOnce(t *testing.T) {
	// Calls at the same time have the results of calls one after the other.
	results := make(chan []int64)
	for range 8 {
		go func() {
			values, _ := impl.EigenvaluesOf(companion(fromRoots(1, 2, 3, 55440)))
			results <- values
		}()
	}
	for range 8 {
		checkList(t, "EigenvaluesOf", <-results, 0, []int64{1, 2, 3, 55440}, 0)
	}
}
