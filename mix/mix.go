// Package mix is what a key is, and its number: see DOC.md, chapter 1.
package mix

import "hoard/api"

const (
	firstFactor  = 0xbf58476d1ce4e5b9
	secondFactor = 0x94d049bb133111eb
	// byteStep is added for each byte, so that a zero byte on a zero number moves it too.
	byteStep = 0x9e3779b97f4a7c15
)

// Key tells whether a text is a key.
func Key(s string) bool {
	// The length is asked first: a text that is far too long is not gone through.
	if len(s) < 1 || len(s) > api.MaxKey {
		return false
	}
	for i := range len(s) {
		if !keyByte(s[i]) {
			return false
		}
	}
	return true
}

// keyByte tells whether a key may have a byte.
func keyByte(b byte) bool {
	switch {
	case 'a' <= b && b <= 'z', 'A' <= b && b <= 'Z', '0' <= b && b <= '9':
		return true
	}
	switch b {
	case '_', '-', '.', '/', ':':
		return true
	}
	return false
}

// Mix is a number, mixed: no two numbers become one.
func Mix(x uint64) uint64 {
	x = (x ^ x>>30) * firstFactor
	x = (x ^ x>>27) * secondFactor
	return x ^ x>>31
}

// Hash is a text's number.
func Hash(seed uint64, s string) uint64 {
	h := Mix(seed ^ uint64(len(s)))
	for i := range len(s) {
		h = Mix((h ^ uint64(s[i])) + byteStep)
	}
	return h
}

// Place is a number among so many.
func Place(h uint64, n int) int {
	if n < 1 {
		return 0
	}
	return int(h % uint64(n))
}

// Sampled tells whether a number is looked at.
func Sampled(h uint64, rate int) bool {
	return int(h%api.MaxRate) < rate
}
