package tests

import (
	"fmt"
	"strings"
	"testing"

	"loop.example/g00798/impl"
)

// tooLong returns strings of one byte more than MaxText; the last one consists of valid parts.
func tooLong() []string {
	return []string{
		strings.Repeat("a", impl.MaxText+1),
		strings.Repeat("/", impl.MaxText+1),
		strings.Repeat("\xff", impl.MaxText+1),
		strings.Repeat("a/", impl.MaxText/2) + "a",
	}
}

// stringsOver returns all strings of at most size bytes over the bytes of alphabet.
func stringsOver(alphabet string, size int) []string {
	all := []string{""}
	last := all
	for range size {
		var next []string
		for _, s := range last {
			for i := range len(alphabet) {
				next = append(next, s+alphabet[i:i+1])
			}
		}
		all = append(all, next...)
		last = next
	}
	return all
}

// resultOf prints what call returns, and fails the test if it panics.
func resultOf(t *testing.T, name string, call func() []any) string {
	t.Helper()
	defer func() {
		if p := recover(); p != nil {
			t.Errorf("%s panics: %v", name, p)
		}
	}()
	return fmt.Sprintf("%q", call())
}

// show prints the beginning of a list of records.
func show(l []impl.Record) string {
	return fmt.Sprintf("%.400s", fmt.Sprintf("%q", []any{l}))
}
