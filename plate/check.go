package plate

import "forecourt/api"

// within reports whether all numbers are from least to most.
func within(least, most int64, numbers ...int64) bool {
	for _, n := range numbers {
		if n < least || n > most {
			return false
		}
	}
	return true
}

// indexes reports whether all numbers are indexes of a list of this length.
func indexes(length int, numbers ...int) bool {
	for _, n := range numbers {
		if n < 0 || n >= length {
			return false
		}
	}
	return true
}

// different reports whether no number comes twice.
func different(numbers []int) bool {
	seen := map[int]bool{}
	for _, n := range numbers {
		if seen[n] {
			return false
		}
		seen[n] = true
	}
	return true
}

// isDigit reports whether a byte is from 0 to 9.
func isDigit(b byte) bool { return '0' <= b && b <= '9' }

// letters reports whether all bytes are letters.
func letters(bytes ...byte) bool {
	for _, b := range bytes {
		if !isDigit(b) && (b < 'A' || b > 'Z') {
			return false
		}
	}
	return true
}

// checkPlates returns the first error of all functions with a book and plates.
func checkPlates(b api.PlateBook, plates ...string) api.Errno {
	if e := CheckBook(b); e != api.OK {
		return e
	}
	for _, plate := range plates {
		if !within(1, api.MaxPlateLong, int64(len(plate))) || !letters([]byte(plate)...) {
			return api.ErrForm
		}
	}
	return api.OK
}

// sizeFits reports whether a table can have so many rows and columns.
func sizeFits(rows, columns int) bool {
	return within(1, api.MaxPlateRows, int64(rows)) && within(int64(rows), api.MaxPlateColumns, int64(columns))
}

// checkTable returns the first error of all functions with a table.
func checkTable(t [][]int64) api.Errno {
	if len(t) == 0 || !sizeFits(len(t), len(t[0])) {
		return api.ErrMany
	}
	for _, row := range t {
		if len(row) != len(t[0]) {
			return api.ErrEqual
		}
	}
	for _, row := range t {
		if !within(0, api.MaxPlateCost, row...) {
			return api.ErrArg
		}
	}
	return api.OK
}
