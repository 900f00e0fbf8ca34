package tests

import (
	"math"
	"slices"
	"testing"
)

// mixed returns a number that depends on seed and place alone, so that a failing test fails again.
func mixed(seed int, place int) uint64 {
	x := uint64(seed)*0x9E3779B97F4A7C15 + uint64(place)*0xD1B54A32D192ED03 + 1
	x ^= x >> 30
	x *= 0xBF58476D1CE4E5B9
	x ^= x >> 27
	x *= 0x94D049BB133111EB
	return x ^ x>>31
}

func mixedBits(seed int, length int) []int {
	list := make([]int, length)
	for k := range list {
		list[k] = int(mixed(seed, k) & 1)
	}
	return list
}

// mixedNumbers has numbers in -level..level.
func mixedNumbers(seed int, length int, level int) []int {
	list := make([]int, length)
	for k := range list {
		list[k] = int(mixed(seed, k)%uint64(2*level+1)) - level
	}
	return list
}

func mixedBytes(seed int, length int) []byte {
	data := make([]byte, length)
	for k := range data {
		data[k] = byte(mixed(seed, k))
	}
	return data
}

func negated(list []int) []int {
	list = slices.Clone(list)
	for k := range list {
		list[k] = -list[k]
	}
	return list
}

func numberSum(list []int) int {
	sum := 0
	for _, number := range list {
		sum += number
	}
	return sum
}

func repeated[T any](value T, length int) []T {
	return slices.Repeat([]T{value}, length)
}

// changed returns a copy of a list with another value at one place.
func changed[T any](list []T, place int, value T) []T {
	list = slices.Clone(list)
	list[place] = value
	return list
}

// notBits are numbers other than 0 and 1; some of them look like a bit if only their last digits are kept.
func notBits() []int {
	return []int{2, 3, -1, -2, 10, 255, 256, 257, -256, 1 << 32, 1<<32 + 1, math.MaxInt, math.MinInt, math.MinInt + 1}
}

// bitLengths are the lengths at which bytes, words and whole lists begin and end, and some between.
func bitLengths() []int {
	return []int{0, 1, 2, 3, 5, 7, 8, 9, 15, 16, 17, 31, 32, 33, 63, 64, 65, 100, 127, 128, 129, 511, 512, 513, 1016, 1017, 1022, 1023, 1024}
}

func wantInts(t *testing.T, name string, got []int, want []int) {
	t.Helper()
	if !slices.Equal(got, want) {
		t.Fatalf("%s: got %v, want %v", name, got, want)
	}
}

func wantBytes(t *testing.T, name string, got []byte, want []byte) {
	t.Helper()
	if !slices.Equal(got, want) {
		t.Fatalf("%s: got %v, want %v", name, got, want)
	}
}

// guarded returns a copy of a list inside a larger array, and the whole array, so that writes behind the list can be seen.
func guarded[T any](list []T, guard T) ([]T, []T) {
	whole := append(slices.Clone(list), guard, guard, guard, guard)
	return whole[:len(list)], whole
}

// overwrite sets every number of a slice, its spare capacity included.
func overwrite[T any](list []T, value T) {
	list = list[:cap(list)]
	for k := range list {
		list[k] = value
	}
}

func copyOfRows[T any](table [][]T) [][]T {
	copied := make([][]T, len(table))
	for station, row := range table {
		copied[station] = slices.Clone(row)
	}
	return copied
}

// withRow has another row.
func withRow[T any](table [][]T, station int, row []T) [][]T {
	table = copyOfRows(table)
	table[station] = row
	return table
}

func withoutStation[T any](table [][]T, station int) [][]T {
	table = slices.Delete(copyOfRows(table), station, station+1)
	for k := range table {
		table[k] = slices.Delete(table[k], station, station+1)
	}
	return table
}

// guardedRows has guarded rows, and guarded values in every row.
func guardedRows[T any](table [][]T, guard T) ([][]T, [][]T) {
	wholes := make([][]T, len(table))
	rows := make([][]T, len(table))
	for station, row := range table {
		rows[station], wholes[station] = guarded(row, guard)
	}
	part, _ := guarded(rows, []T{guard})
	return part, wholes
}
