package hash

import (
	"strings"

	"manometer/api"
)

const (
	byteBits  = 8
	armorBits = 6 // bits of a letter of Armor
	hexBits   = 4 // bits of a letter of Hex
)

const (
	armorLetters = "ABCDEFGHIJKLMNOPQRSTUVWXYZabcdefghijklmnopqrstuvwxyz0123456789-_"
	hexLetters   = "0123456789abcdef"
)

// Armor is the bytes as letters of six bits each (base64 for addresses, without what fills up).
func Armor(b []byte) string { return written(b, armorBits, armorLetters) }

// Unarmor is the bytes of which s is Armor.
func Unarmor(s string) ([]byte, api.Errno) { return unwritten(s, armorBits, armorNumber) }

// Hex is the bytes as letters of four bits each.
func Hex(b []byte) string { return written(b, hexBits, hexLetters) }

// Unhex is the bytes of which s is Hex.
func Unhex(s string) ([]byte, api.Errno) { return unwritten(s, hexBits, hexNumber) }

// written is the bytes as letters of so many bits each, the highest bits first, the last letter filled with bits 0.
func written(b []byte, width int, letters string) string {
	var text strings.Builder
	text.Grow((len(b)*byteBits + width - 1) / width)
	held, count := uint32(0), 0 // bits that have no letter yet, and how many these are
	for _, x := range b {
		held = held<<byteBits | uint32(x)
		count += byteBits
		for count >= width {
			count -= width
			text.WriteByte(letters[held>>count])
			held &= 1<<count - 1
		}
	}
	if count > 0 {
		text.WriteByte(letters[held<<(width-count)])
	}
	return text.String()
}

// unwritten is the bytes that are written s, by letters of so many bits each; number tells what a letter stands for.
func unwritten(s string, width int, number func(rune) (uint32, bool)) ([]byte, api.Errno) {
	b := make([]byte, 0, len(s)*width/byteBits)
	held, count := uint32(0), 0 // bits that are not yet in a byte, and how many these are
	for _, r := range s {
		n, ok := number(r)
		if !ok {
			return nil, api.ErrForm
		}
		held = held<<width | n
		count += width
		if count >= byteBits {
			count -= byteBits
			b = append(b, byte(held>>count))
			held &= 1<<count - 1
		}
	}
	if count >= width || held != 0 { // a letter too many, or filled with other bits: no bytes are written so
		return nil, api.ErrForm
	}
	return b, api.OK
}

// armorNumber is the six bits that a letter of Armor stands for.
func armorNumber(r rune) (uint32, bool) {
	switch {
	case 'A' <= r && r <= 'Z':
		return uint32(r - 'A'), true
	case 'a' <= r && r <= 'z':
		return uint32(r-'a') + 26, true
	case '0' <= r && r <= '9':
		return uint32(r-'0') + 52, true
	case r == '-':
		return 62, true
	case r == '_':
		return 63, true
	}
	return 0, false
}

// hexNumber is the four bits that a letter of Hex stands for.
func hexNumber(r rune) (uint32, bool) {
	switch {
	case '0' <= r && r <= '9':
		return uint32(r - '0'), true
	case 'a' <= r && r <= 'f':
		return uint32(r-'a') + 10, true
	}
	return 0, false
}
