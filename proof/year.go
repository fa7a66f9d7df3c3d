package proof

import (
	"cmp"
	"maps"
	"slices"

	"wayzgoose/api"
)

// none stands where no year has a line.
const none = -1

// lastWith returns the number of the last year that has a line, none if none
// has.
func lastWith(years [][]string, line string) int {
	for year := len(years) - 1; year >= 0; year-- {
		if slices.Contains(years[year], line) {
			return year
		}
	}
	return none
}

// checkPageOf returns the first error of years and a page.
func checkPageOf(years [][]string, page []string) api.Errno {
	return cmp.Or(checkYears(years), Check(page))
}

// Origin returns for each line of a page the number of the last year that has
// it.
func Origin(years [][]string, page []string) ([]int, api.Errno) {
	if e := checkPageOf(years, page); e != api.OK {
		return nil, e
	}
	var l []int
	for _, line := range page {
		l = append(l, lastWith(years, line))
	}
	return l, api.OK
}

// Back returns the numbers of all lines of a page that the last year does not
// have, but an older one has.
func Back(years [][]string, page []string) ([]int, api.Errno) {
	if e := checkPageOf(years, page); e != api.OK {
		return nil, e
	}
	var l []int
	for number, line := range page {
		if year := lastWith(years, line); year != none && year < len(years)-1 {
			l = append(l, number)
		}
	}
	return l, api.OK
}

// count returns how often a page has each line.
func count(page []string) map[string]int {
	counts := map[string]int{}
	for _, line := range page {
		counts[line]++
	}
	return counts
}

// stock returns how often that year has each line that has it most often.
func stock(years [][]string) map[string]int {
	most := map[string]int{}
	for _, page := range years {
		for line, n := range count(page) {
			most[line] = max(most[line], n)
		}
	}
	return most
}

// Stock returns the type of all years, sorted.
func Stock(years [][]string) ([]api.Type, api.Errno) {
	if e := checkYears(years); e != api.OK {
		return nil, e
	}
	standing := stock(years)
	var l []api.Type
	for _, line := range slices.Sorted(maps.Keys(standing)) {
		l = append(l, api.Type{Text: line, Count: standing[line]})
	}
	return l, api.OK
}

// Fresh returns how many lines of a page have to be set anew with all the type
// of some years.
func Fresh(years [][]string, page []string) (int, api.Errno) {
	if e := checkPageOf(years, page); e != api.OK {
		return 0, e
	}
	standing := stock(years)
	fresh := 0
	for line, n := range count(page) {
		fresh += max(0, n-standing[line])
	}
	return fresh, api.OK
}
