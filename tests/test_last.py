import itertools
import unittest

from calls import CallCase, of
from shorttextsdesk.texts import last


class LastTest(CallCase):
    def found(self, t, p, place):
        self.check(last, (of(t), of(p)), [place])

    def test_at_the_first_place(self):
        self.found("abc", "ab", 0)
        self.found("abc", "a", 0)
        self.found("abc", "abc", 0)

    def test_the_last_of_several(self):
        self.found("abcabx", "ab", 3)
        self.found("abcabcx", "c", 5)

    def test_at_the_end(self):
        self.found("abcab", "ab", 3)
        self.found("abcd", "d", 3)
        self.check(last, (list(range(31)), [30]), [30])
        self.check(last, ([9] * 31, [9]), [30])

    def test_nowhere(self):
        self.found("abcd", "x", -1)
        self.found("abcd", "ac", -1)
        self.found("abcd", "de", -1)
        self.found("abcd", "da", -1)
        self.found("", "a", -1)

    def test_letters_differ_by_case(self):
        self.found("ABab", "AB", 0)

    def test_any_bytes(self):
        self.check(last, ([0, 255, 128, 0, 255, 1], [0, 255]), [3])

    def test_the_empty_p(self):
        self.found("", "", 0)
        self.found("a", "", 1)
        self.found("abcab", "", 5)
        self.found("a" * 31, "", 31)

    def test_p_longer_than_t(self):
        self.found("ab", "abc", -1)
        self.found("bc", "abc", -1)
        self.found("", "a" * 31, -1)
        self.found("a" * 30, "a" * 31, -1)

    def test_places_that_overlap(self):
        self.found("aaaa", "aa", 2)
        self.found("aaaaa", "aa", 3)
        self.found("ababab", "abab", 2)
        self.found("abababa", "aba", 4)
        self.found("a" * 31, "a" * 30, 1)

    def test_all_short_texts(self):
        for long_t, long_p in itertools.product(range(6), range(4)):
            for t in itertools.product((0, 1), repeat=long_t):
                for p in itertools.product((0, 1), repeat=long_p):
                    self.check(last, (list(t), list(p)), [bytes(t).rfind(bytes(p))])


if __name__ == "__main__":
    unittest.main()
