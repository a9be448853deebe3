package codec

import "strconv"

// Digits is a number as text.
func Digits(n int64) string { return strconv.FormatInt(n, 10) }

// Number is the number that a text is.
func Number(s string) (int64, bool) {
	n, err := strconv.ParseInt(s, 10, 64)
	// ParseInt takes more texts than a number's own (a sign +, zeros in front): only the very Digits are the number.
	if err != nil || Digits(n) != s {
		return 0, false
	}
	return n, true
}
