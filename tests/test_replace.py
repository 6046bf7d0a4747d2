import itertools
import unittest

from calls import CallCase, of, text_answer
from shorttextsdesk.texts import replace


class ReplaceTest(CallCase):
    def replaced(self, t, p, r, wanted):
        self.check(replace, (of(t), of(p), of(r)), text_answer(of(wanted)))

    def test_once_and_several_times(self):
        self.replaced("abcd", "bc", "x", "axd")
        self.replaced("abcabxab", "ab", "-", "-c-x-")
        self.replaced("banana", "a", "o", "bonono")

    def test_p_that_overlaps_itself(self):
        self.check(replace, ([7, 7, 7], [7, 7], [1]), [2, 1, 7])
        self.replaced("aaaaa", "aa", "x", "xxa")
        self.replaced("ababa", "aba", "x", "xba")
        self.replaced("abababa", "aba", "x", "xbx")

    def test_found_from_the_front(self):
        self.replaced("aaa", "aa", "", "a")
        self.replaced("xababay", "aba", "-", "x-bay")

    def test_a_beginning_that_breaks_off(self):
        self.replaced("aaab", "aab", "x", "ax")
        self.replaced("ababac", "abac", "x", "abx")

    def test_the_empty_p_replaces_nothing(self):
        for t in ("", "a", "abcab", "a" * 31):
            for r in ("", "x", "xyz", "x" * 31):
                self.replaced(t, "", r, t)

    def test_p_longer_than_t(self):
        self.replaced("", "a", "x", "")
        self.replaced("ab", "abc", "x", "ab")
        self.replaced("bc", "abc", "x", "bc")
        self.replaced("a" * 30, "a" * 31, "x", "a" * 30)

    def test_p_equal_to_t(self):
        self.replaced("abcab", "abcab", "xy", "xy")
        self.replaced("abcab", "abcab", "", "")
        self.replaced("a" * 31, "a" * 31, "b" * 31, "b" * 31)

    def test_at_the_very_front_and_the_very_end(self):
        self.replaced("abcd", "a", "xy", "xybcd")
        self.replaced("abcd", "cd", "x", "abx")
        self.replaced("cdabcd", "cd", "x", "xabx")
        self.check(replace, (list(range(31)), [29, 30], [7]), text_answer(list(range(29)) + [7]))

    def test_nowhere(self):
        for p in ("x", "ac", "de", "da", "B"):
            self.replaced("abcd", p, "-", "abcd")

    def test_r_empty(self):
        self.replaced("abcabxab", "ab", "", "cx")
        self.replaced("aaaa", "a", "", "")

    def test_r_shorter_than_p(self):
        self.replaced("abcabc", "abc", "xy", "xyxy")

    def test_r_as_long_as_p(self):
        self.replaced("abcabd", "ab", "xy", "xycxyd")
        self.replaced("a" * 31, "a", "b", "b" * 31)

    def test_r_longer_than_p(self):
        self.replaced("abcab", "ab", "wxyz", "wxyzcwxyz")

    def test_what_r_brings_is_not_looked_through_again(self):
        self.replaced("ab", "a", "aa", "aab")
        self.replaced("ab", "ab", "abab", "abab")
        # Beside what stands next to it, what came gives p once more.
        self.replaced("aabb", "ab", "", "ab")
        self.replaced("aab", "ab", "b", "ab")
        self.replaced("abb", "ab", "a", "ab")

    def test_a_full_text_is_not_cut(self):
        self.replaced("a" * 15 + "b", "a", "xy", "xy" * 15 + "b")

    def test_cut_behind_an_r(self):
        self.replaced("a" * 16, "a", "xy", "xy" * 15 + "x")
        self.replaced("a" + "b" * 30, "a", "xy", "xy" + "b" * 29)
        self.replaced("b" * 29 + "ac", "a", "xy", "b" * 29 + "xy")

    def test_cut_in_the_midst_of_an_r(self):
        self.replaced("b" * 30 + "a", "a", "xyz", "b" * 30 + "x")
        self.replaced("b" * 29 + "ac", "a", "xyz", "b" * 29 + "xy")
        self.check(replace, ([5] * 31, [5], list(range(31))), text_answer(list(range(31))))
        self.check(replace, ([6, 5, 5], [5], list(range(31))), text_answer([6] + list(range(30))))

    def test_a_full_text_becomes_shorter(self):
        self.replaced("a" * 31, "aa", "b", "b" * 15 + "a")

    def test_any_bytes(self):
        self.check(replace, ([0, 255, 128, 0, 255], [0, 255], [255, 0]), [5, 255, 0, 128, 255, 0])

    def test_all_short_texts(self):
        for long_t, long_p in itertools.product(range(6), range(1, 4)):
            for t in itertools.product((0, 1), repeat=long_t):
                for p in itertools.product((0, 1), repeat=long_p):
                    for r in ((), (0,), (1, 0), (0, 1, 2), (0, 0, 1, 1) * 5):
                        wanted = bytes(t).replace(bytes(p), bytes(r))[:31]
                        self.check(replace, (list(t), list(p), list(r)), text_answer(list(wanted)))


if __name__ == "__main__":
    unittest.main()
