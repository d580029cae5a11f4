package tests

import (
	"strings"
	"testing"

	"loop.example/classicalcontrol/impl"
)

// What promises tell of every text can be searched for longer by go test -fuzz; without it just the texts that are added here are tried.

func FuzzExecute(f *testing.F) {
	for text := range scriptCases {
		f.Add(text)
	}
	for _, text := range scripts()[:60] {
		f.Add(text)
	}
	f.Fuzz(func(t *testing.T, text string) {
		if got, want := impl.Execute(text), scriptText(text); got != want {
			t.Errorf("Execute of %q: %q, not %q", text, got, want)
		}
	})
}

func FuzzPromise82(f *testing.F) {
	for i, g := range goals() {
		if i%40 == 0 {
			f.Add(strings.Join(g.left, "\n"), strings.Join(g.right, "\n"))
		}
	}
	f.Fuzz(func(t *testing.T, left string, right string) { checkPromise82(t, left, right) })
}

func FuzzPromise83(f *testing.F) {
	for i, a := range meant() {
		if i%40 == 0 && len(a.s) < 200 {
			f.Add(a.s, a.n, signed(a.values))
		}
	}
	f.Fuzz(func(t *testing.T, s string, n int, values []byte) {
		var numbers []int
		for _, b := range values {
			numbers = append(numbers, int(b)-8)
		}
		checkPromise83(t, s, n, numbers)
	})
}

// signed writes values as bytes of which the first ones stand for negative numbers.
func signed(values []int) []byte {
	var bytes []byte
	for _, value := range values {
		bytes = append(bytes, byte(value+8))
	}
	return bytes
}

func FuzzPromise84(f *testing.F) {
	for i, s := range someMachines() {
		if i%20 == 0 {
			f.Add(s)
		}
	}
	f.Fuzz(func(t *testing.T, s string) { checkPromise84(t, s) })
}
