// Package code: numbers and rows as bytes (doc/01-code.md).
package code

import (
	"bytes"
	"strconv"
	"strings"

	"aumbry/api"
)

const (
	maxPut = 8 // bytes that a number is put as, at most
	maxGet = 7 // bytes that a number is got from, at most: what they hold always fits an int

	letters    = "abcdefghijklmnopqrstuvwxyz234567"
	letterBits = 5
	byteBits   = 8
)

// Put tells n as width bytes, the greatest first; what does not fit is cut off.
func Put(n, width int) []byte {
	n = max(n, 0)
	width = min(max(width, 0), maxPut)
	b := make([]byte, width)
	for i := width - 1; i >= 0; i-- {
		b[i] = byte(n)
		n >>= byteBits
	}
	return b
}

// Get tells the number that b is; false: b is too long.
func Get(b []byte) (int, bool) {
	if len(b) > maxGet {
		return 0, false
	}
	n := 0
	for _, x := range b {
		n = n<<byteBits | int(x)
	}
	return n, true
}

// Net tells b as a row: its length, a colon, its bytes, a comma.
func Net(b []byte) []byte {
	return appendNet(nil, b)
}

// Nets tells all of l as rows, one behind the other.
func Nets(l ...[]byte) []byte {
	var rows []byte
	for _, b := range l {
		rows = appendNet(rows, b)
	}
	return rows
}

func appendNet(rows, b []byte) []byte {
	rows = strconv.AppendInt(rows, int64(len(b)), 10)
	rows = append(rows, ':')
	rows = append(rows, b...)
	return append(rows, ',')
}

// TakeNet tells what the row at b's beginning holds, and what is behind that row; false: there is none.
func TakeNet(b []byte) (item, rest []byte, ok bool) {
	item, rest, ok = cutNet(b)
	if !ok {
		return nil, nil, false
	}
	return bytes.Clone(item), bytes.Clone(rest), true
}

// TakeNets tells what the n rows hold that b is; false: it is not just n rows.
func TakeNets(b []byte, n int) (l [][]byte, ok bool) {
	if n < 0 {
		return nil, false
	}
	// l grows with the rows that are found: n itself may be far beyond them.
	for range n {
		item, rest, ok := cutNet(b)
		if !ok {
			return nil, false
		}
		l = append(l, bytes.Clone(item))
		b = rest
	}
	if len(b) > 0 {
		return nil, false
	}
	return l, true
}

// cutNet is TakeNet within b's own memory, so that a walk over many rows copies each byte once only.
func cutNet(b []byte) (item, rest []byte, ok bool) {
	length, start, ok := rowLength(b)
	if !ok {
		return nil, nil, false
	}
	end := start + length
	if end >= len(b) || b[end] != ',' {
		return nil, nil, false
	}
	return b[start:end], b[end+1:], true
}

// rowLength reads the digits and the colon at b's beginning: the length, and where the row's bytes start.
func rowLength(b []byte) (length, start int, ok bool) {
	digits := 0
	for digits < len(b) && '0' <= b[digits] && b[digits] <= '9' {
		// Both ends come early, so that no row of digits is long enough to overflow the length.
		if digits > 0 && b[0] == '0' {
			return 0, 0, false
		}
		length = length*10 + int(b[digits]-'0')
		if length > api.MaxBytes {
			return 0, 0, false
		}
		digits++
	}
	if digits == 0 || digits == len(b) || b[digits] != ':' {
		return 0, 0, false
	}
	return length, digits + 1, true
}

// Base32 tells b in letters of five binary digits each, without any filling behind them.
func Base32(b []byte) string {
	var s strings.Builder
	held, bits := 0, 0
	for _, x := range b {
		held = held<<byteBits | int(x)
		bits += byteBits
		for bits >= letterBits {
			bits -= letterBits
			s.WriteByte(letters[held>>bits])
			held &= 1<<bits - 1
		}
	}
	if bits > 0 {
		s.WriteByte(letters[held<<(letterBits-bits)])
	}
	return s.String()
}

// Bytes32 tells the bytes whose Base32 s is; false: there are none.
func Bytes32(s string) ([]byte, bool) {
	var b []byte
	held, bits := 0, 0
	for i := range len(s) {
		value := strings.IndexByte(letters, s[i])
		if value < 0 {
			return nil, false
		}
		held = held<<letterBits | value
		bits += letterBits
		if bits >= byteBits {
			bits -= byteBits
			b = append(b, byte(held>>bits))
			held &= 1<<bits - 1
		}
	}
	// Base32 writes no letter without a byte's digit in it, and noughts for the missing ones.
	if bits >= letterBits || held != 0 {
		return nil, false
	}
	return b, true
}
