// Package text: places in a source text: see ../shared/doc/01-text.md.
package text

import (
	"strconv"

	"typedholes/api"
)

// Place returns the line and the column of an offset, both counted from 1; an
// offset outside of src counts as the nearest one inside.
func Place(src string, pos int) (int, int) {
	pos = min(max(pos, 0), len(src))
	line, begin := 1, 0
	// A line feed belongs to the line that it ends, so the one at pos itself
	// does not count.
	for i := range pos {
		if src[i] == '\n' {
			line, begin = line+1, i+1
		}
	}
	return line, pos - begin + 1
}

// Offset returns the offset with the place (line, col), and whether there is one.
func Offset(src string, line, col int) (int, bool) {
	lines := Lines(src)
	if line < 1 || line > len(lines) {
		return 0, false
	}
	// One column follows the bytes of a line: that of its line feed or, in the
	// last line, that of the end of the text.
	if col < 1 || col > len(lines[line-1])+1 {
		return 0, false
	}
	begin := 0
	for i := range line - 1 {
		begin += len(lines[i]) + 1
	}
	return begin + col - 1, true
}

// Lines returns the lines of src without their line feeds.
func Lines(src string) []string {
	var lines []string
	begin := 0
	for i := range len(src) {
		if src[i] == '\n' {
			lines = append(lines, src[begin:i])
			begin = i + 1
		}
	}
	return append(lines, src[begin:])
}

// Number returns n in decimal.
func Number(n int) string { return strconv.Itoa(n) }

// Describe returns the place and the number of an error, or the empty string
// if there is none.
func Describe(src string, f api.Fault) string {
	if f.Err == api.OK {
		return ""
	}
	line, col := Place(src, f.Pos)
	return Number(line) + ":" + Number(col) + ": error " + Number(int(f.Err))
}
