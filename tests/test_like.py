import itertools
import re
import unittest

from calls import CallCase, of
from shorttextsdesk.texts import like


def as_expression(p):
    """p as Python's own regular expression."""
    whole = b""
    signs = iter(p)
    for byte in signs:
        if byte == 92:
            whole += re.escape(bytes([next(signs, 92)]))
        else:
            whole += {63: b".", 42: b".*"}.get(byte, re.escape(bytes([byte])))
    return re.compile(whole, re.DOTALL)


class LikeTest(CallCase):
    def matches(self, t, p):
        self.check(like, (of(t), of(p)), [1])

    def differs(self, t, p):
        self.check(like, (of(t), of(p)), [0])

    def test_bytes_themselves(self):
        self.matches("a", "a")
        self.matches("abc", "abc")
        self.matches("z" * 31, "z" * 31)
        self.differs("a", "b")
        self.differs("abc", "abd")
        self.differs("abc", "xbc")
        self.differs("a", "A")
        self.differs("[", "{")

    def test_each_byte_beside_each(self):
        for t, p in itertools.product(range(256), repeat=2):
            self.assertEqual(like([t], [p]), [1 if t == p or p in (42, 63) else 0], (t, p))

    def test_the_empty_text_and_the_empty_p(self):
        self.matches("", "")
        self.differs("a", "")
        self.differs("?", "")
        self.differs("*", "")
        self.differs("a" * 31, "")
        self.differs("", "a")
        self.differs("", "\\")
        self.differs("", "\\*")
        self.differs("", "a" * 31)
        self.matches("", "*")
        self.matches("", "***")
        self.differs("", "*a")
        self.differs("", "a*")
        self.differs("", "*?")

    def test_a_question_mark_is_one_byte(self):
        self.matches("a", "?")
        self.matches("abc", "a?c")
        self.matches("abc", "?bc")
        self.matches("abc", "ab?")
        self.matches("abc", "???")
        self.matches("a" * 31, "?" * 31)
        for sign in "?*\\":
            self.matches(sign, "?")
            self.matches("a" + sign + "c", "a?c")
        for byte in range(256):
            self.check(like, ([byte], [63]), [1])

    def test_a_question_mark_at_no_byte(self):
        self.differs("", "?")
        self.differs("ab", "ab?")
        self.differs("ab", "?ab")
        self.differs("ac", "a?c")
        self.differs("ab", "???")
        self.differs("a" * 30, "?" * 31)

    def test_a_question_mark_is_not_two_bytes(self):
        self.differs("ab", "?")
        self.differs("abbc", "a?c")
        self.differs("a" * 31, "?" * 30)

    def test_a_star_for_none_one_and_many(self):
        for midst in ("", "b", "bbb", "?*\\"):
            self.matches(midst, "*")
            self.matches(midst + "xy", "*xy")
            self.matches("x" + midst + "y", "x*y")
            self.matches("xy" + midst, "xy*")
        self.matches("a", "*")
        self.matches("a" * 31, "*")
        self.matches("b" * 30 + "a", "*a")
        self.matches("a" + "b" * 30, "a*")
        self.matches("a" + "b" * 29 + "a", "a*a")
        self.check(like, (list(range(225, 256)), [42]), [1])

    def test_a_star_does_not_help(self):
        self.differs("bcx", "*bc")
        self.differs("xac", "a*c")
        self.differs("acx", "a*c")
        self.differs("xab", "ab*")
        self.differs("a", "a*a")
        self.differs("aba", "*b")
        self.differs("aba", "b*")

    def test_stars_behind_one_another(self):
        for stars in ("**", "***", "*" * 29):
            self.matches("ab", "a" + stars + "b")
            self.matches("axyb", "a" + stars + "b")
            self.matches("xyab", stars + "ab")
            self.matches("abxy", "ab" + stars)
            self.differs("axyc", "a" + stars + "b")

    def test_stars_and_question_marks(self):
        self.differs("", "?*")
        self.matches("a", "?*")
        self.matches("a", "*?")
        self.matches("a", "*?*")
        self.differs("a", "?*?")
        self.matches("ab", "?*?")
        self.matches("abcde", "?*?")
        self.matches("xabc", "*?bc")
        self.differs("bc", "*?bc")

    def test_stars_apart(self):
        self.matches("abcd", "*b*d")
        self.matches("abcd", "a*c*")
        self.matches("abcd", "*b*c*")
        self.matches("abcd", "*a*b*c*d*")
        self.differs("abcd", "*c*b*")
        self.differs("abcd", "*b*b*")
        self.matches("abab", "*ab*ab*")
        self.differs("aba", "*ab*ab*")

    def test_a_place_that_fits_first_and_fails_later(self):
        self.check(like, ([1, 2, 1, 2, 3], [42, 1, 2, 3]), [1])
        self.matches("aab", "*ab")
        self.matches("aaab", "*aab")
        self.matches("abcabd", "*abd")
        self.matches("abxabxc", "*ab*xc")
        self.matches("ababac", "a*bac")
        self.matches("mississippi", "m*iss*ip*i")
        self.differs("mississippi", "m*iss*ip*s")
        self.matches("acab", "*a?")
        self.differs("aaba", "*a?b")

    def test_many_stars_are_answered_at_once(self):
        # Were each star tried place by place, these would outlast the seconds that a test has.
        self.matches("a" * 31, "*" * 31)
        self.matches("a" * 31, "*a" * 15)
        self.matches("a" * 31, "a*" * 15 + "a")
        self.differs("a" * 31, "*a" * 15 + "b")
        self.differs("a" * 31, "a*" * 15 + "b")
        self.differs("a" * 31, "*a" * 14 + "*b")
        self.differs("a" * 31, "*?" * 15 + "b")
        self.differs("a" * 31, "*" * 30 + "b")
        self.differs("ab" * 15 + "a", "*ab" * 10 + "c")
        self.differs("a" * 31, "b" + "*a" * 15)

    def test_an_escape_before_a_sign(self):
        for sign in "?*\\":
            self.matches(sign, "\\" + sign)
            self.matches("a" + sign + "b", "a\\" + sign + "b")
            for t in ("", "a", "ab", "\\", "\\" + sign, sign + sign, "/"):
                if t != sign:
                    self.differs(t, "\\" + sign)
        self.differs("axb", "a\\?b")
        self.differs("axxb", "a\\*b")
        self.differs("ab", "a\\*b")

    def test_an_escape_before_another_byte(self):
        self.matches("a", "\\a")
        self.matches("xay", "x\\ay")
        self.matches("\n", "\\\n")
        self.differs("\n", "\\n")
        self.differs("\\a", "\\a")
        self.differs("b", "\\a")
        self.differs("", "\\a")
        self.matches("\\a", "\\\\a")
        for byte in range(256):
            self.check(like, ([byte], [92, byte]), [1])
            self.check(like, ([92, byte], [92, byte]), [0])

    def test_an_escape_takes_just_one_byte(self):
        self.matches("?b", "\\??")
        self.differs("ab", "\\??")
        self.matches("*abc", "\\**")
        self.differs("abc", "\\**")
        self.matches("\\abc", "\\\\*")
        self.matches("\\*", "\\\\\\*")
        self.differs("\\a", "\\\\\\*")
        self.matches("\\" * 15, "\\" * 30)
        self.matches("\\" * 16, "\\" * 31)

    def test_an_escape_at_the_end(self):
        self.matches("\\", "\\")
        self.matches("a\\", "a\\")
        self.matches("\\\\", "\\\\\\")
        self.matches("x\\", "?\\")
        self.differs("a", "a\\")
        self.differs("a", "\\")
        self.differs("ab", "a\\")
        self.differs("\\\\", "\\")
        self.matches("a" * 30 + "\\", "a" * 30 + "\\")

    def test_an_escape_behind_a_star(self):
        self.matches("\\", "*\\")
        self.matches("ab\\", "*\\")
        self.matches("a\\b\\", "*\\")
        self.differs("ab", "*\\")
        self.differs("\\a", "*\\")
        self.differs("", "*\\")
        self.matches("ab*", "*\\*")
        self.differs("abc", "*\\*")
        self.matches("ab?", "*\\?")
        self.differs("abc", "*\\?")
        self.matches("abc", "*\\c")
        self.matches("ab\\", "*\\\\")

    def test_only_a_beginning_of_t(self):
        self.differs("abc", "ab")
        self.differs("abc", "a?")
        self.differs("abc", "*b")
        self.differs("abc", "\\a")
        self.differs("ab\\c", "ab\\")
        self.differs("a" * 31, "a" * 30)

    def test_only_a_beginning_of_p(self):
        self.differs("ab", "abc")
        self.differs("ab", "ab?")
        self.differs("ab", "ab\\")
        self.differs("ab", "ab*c")
        self.differs("a" * 30, "a" * 31)

    def test_any_bytes(self):
        self.check(like, ([0, 255, 128], [0, 255, 128]), [1])
        self.check(like, ([0, 10, 13, 255], [0, 42, 255]), [1])
        self.check(like, ([0], [255]), [0])
        self.check(like, ([0], []), [0])

    def test_all_short_texts(self):
        texts = [bytes(t) for long_t in range(4) for t in itertools.product(b"?*\\a", repeat=long_t)]
        patterns = [p for long_p in range(5) for p in itertools.product(b"?*\\a", repeat=long_p)]
        for p in patterns:
            expression = as_expression(p)
            for t in texts:
                wanted = [1 if expression.fullmatch(t) else 0]
                self.assertEqual(like(list(t), list(p)), wanted, (t, p))


if __name__ == "__main__":
    unittest.main()
