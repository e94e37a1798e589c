package num

// find tells where, behind blanks, perhaps a sign and the longest numeral stand; 0 and 0, if none does.
func find(s string) (from, end int) {
	from = pastBlanks(s, 0)
	numeral := pastSign(s, from)
	end = pastMantissa(s, numeral)
	if end == numeral {
		return 0, 0
	}
	return from, pastExponent(s, end)
}

// pastMantissa tells the place behind digits with a point or none; at, if there are no digits.
func pastMantissa(s string, at int) int {
	end := pastDigits(s, at)
	if end == len(s) || s[end] != '.' {
		return end
	}
	end = pastDigits(s, end+1)
	// A point alone is no numeral.
	if end == at+1 {
		return at
	}
	return end
}

// pastExponent tells the place behind an exponent; at, if there is none: one without digits does not belong to the numeral.
func pastExponent(s string, at int) int {
	if at == len(s) || s[at] != 'e' && s[at] != 'E' {
		return at
	}
	digits := pastSign(s, at+1)
	end := pastDigits(s, digits)
	if end == digits {
		return at
	}
	return end
}

// pastSign goes past one sign at the most.
func pastSign(s string, at int) int {
	if at < len(s) && (s[at] == '+' || s[at] == '-') {
		return at + 1
	}
	return at
}

func pastDigits(s string, at int) int {
	for at < len(s) && '0' <= s[at] && s[at] <= '9' {
		at++
	}
	return at
}

func pastBlanks(s string, at int) int {
	for at < len(s) && (9 <= s[at] && s[at] <= 13 || s[at] == ' ') {
		at++
	}
	return at
}
