import itertools
import unittest

from calls import CallCase, of
from shorttextsdesk.texts import count


class CountTest(CallCase):
    def counted(self, t, p, often):
        self.check(count, (of(t), of(p)), [often])

    def test_once_and_several_times(self):
        self.counted("abcd", "bc", 1)
        self.counted("abcabxab", "ab", 3)
        self.counted("banana", "a", 3)
        self.counted("a" * 31, "a", 31)

    def test_side_by_side(self):
        self.counted("ababab", "ab", 3)
        self.counted("aaaa", "aa", 2)
        self.counted("a" * 31, "aaa", 10)

    def test_p_that_overlaps_itself(self):
        self.check(count, ([7, 7, 7], [7, 7]), [1])
        self.counted("aaaaa", "aa", 2)
        self.counted("ababa", "aba", 1)
        self.counted("abababa", "aba", 2)
        self.counted("a" * 31, "aa", 15)

    def test_a_beginning_that_breaks_off(self):
        self.counted("aaab", "aab", 1)
        self.counted("ababac", "abac", 1)

    def test_the_empty_p(self):
        self.counted("", "", 1)
        self.counted("a", "", 2)
        self.counted("abcab", "", 6)
        self.counted("a" * 31, "", 32)

    def test_p_longer_than_t(self):
        self.counted("", "a", 0)
        self.counted("ab", "abc", 0)
        self.counted("bc", "abc", 0)
        self.counted("", "a" * 31, 0)
        self.counted("a" * 30, "a" * 31, 0)

    def test_p_equal_to_t(self):
        self.counted("a", "a", 1)
        self.counted("abcab", "abcab", 1)
        self.check(count, (list(range(31)), list(range(31))), [1])

    def test_at_the_very_end(self):
        self.counted("abcd", "d", 1)
        self.counted("abcd", "cd", 1)
        self.counted("cdabcd", "cd", 2)
        self.check(count, (list(range(31)), [29, 30]), [1])

    def test_nowhere(self):
        self.counted("abcd", "x", 0)
        self.counted("abcd", "ac", 0)
        self.counted("abcd", "de", 0)
        self.counted("abcd", "da", 0)
        self.counted("abcd", "B", 0)

    def test_any_bytes(self):
        self.check(count, ([0, 255, 128, 0, 255], [0, 255]), [2])
        self.check(count, ([0, 0], [0]), [2])

    def test_all_short_texts(self):
        for long_t, long_p in itertools.product(range(7), range(4)):
            for t in itertools.product((0, 1), repeat=long_t):
                for p in itertools.product((0, 1), repeat=long_p):
                    self.check(count, (list(t), list(p)), [bytes(t).count(bytes(p))])


if __name__ == "__main__":
    unittest.main()
