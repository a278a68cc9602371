import itertools
import re
import unittest
from fractions import Fraction

from exactlutes.intervals import is_interval, print_text, read
from support import (
    EQUAL_FIFTH, FIFTH, INTERVALS, OCTAVE, UNISON, GuardedList, check_answer, check_second_call, interval_of_powers,
)

FACTOR = r"[2357](\^(0|-?[1-9][0-9]{0,3})(/(0|[1-9][0-9]{0,3}))?)?"
# What a factor can begin with, itself and nothing at all among them.
FACTOR_BEGUN = r"([2357](\^(-|(0|-?[1-9][0-9]{0,3})(/(0|[1-9][0-9]{0,3})?)?)?)?)?"
WHOLE_FORM = re.compile(rf"1|({FACTOR} )*{FACTOR}", re.ASCII)
FORM_BEGUN = re.compile(rf"1|({FACTOR} )*{FACTOR_BEGUN}", re.ASCII)
WHOLE_FACTOR = re.compile(FACTOR, re.ASCII)


def told_wrongly(factor):
    """Whether a factor of the right form tells a power 0, or 1, or a fraction not in lowest terms, or d 0 or 1."""
    if "^" not in factor:
        return False
    top, slash, bottom = factor[2:].partition("/")
    if not slash:
        return top in ("0", "1")
    return bottom in ("0", "1") or str(Fraction(int(top), int(bottom))) != factor[2:]


def form_fault(text):
    """The place of the first byte that no text of the form has behind those before it; else None."""
    for place in range(len(text)):
        if not FORM_BEGUN.fullmatch(text[:place + 1]):
            return place
    return None if WHOLE_FORM.fullmatch(text) else len(text)


def factor_fault(text, end):
    """The place of the first factor that stands whole ahead of the place end and is wrong; else None."""
    place = 0
    last = "1"
    for factor in text[:end].split(" "):
        behind = text[place + len(factor):place + len(factor) + 1]
        goes_on = "^" in factor and behind != "" and behind in "0123456789"
        whole = WHOLE_FACTOR.fullmatch(factor) and not goes_on
        if whole and (factor[0] <= last or told_wrongly(factor)):
            return place
        last = factor[:1]
        place += len(factor) + 1
    return None


def told_powers(text):
    """The powers of 2, 3, 5 and 7 that a text without a fault in its form tells."""
    powers = dict.fromkeys("2357", Fraction(0))
    for factor in text.split(" "):
        if factor != "1":
            powers[factor[0]] = Fraction(factor[2:] or 1)
    return list(powers.values())


def expected_read(t):
    """The answer that the document asks for, found from the form as a whole."""
    if len(t) > 64:
        return [0, 64]
    text = bytes(t).decode("latin-1")
    form = form_fault(text)
    factor = factor_fault(text, len(text) if form is None else form)
    if factor is not None:
        return [0, factor]
    if form is not None:
        return [0, form]
    answer = interval_of_powers(told_powers(text))
    return answer if answer[0] == 1 else [0, len(text)]


def as_bytes(text):
    return list(text.encode("latin-1"))


class Common(unittest.TestCase):
    def check_read(self, rows):
        for text, expected in rows:
            with self.subTest(text=text):
                check_answer(self, read(as_bytes(text)), expected)
                self.assertEqual(expected_read(as_bytes(text)), expected)

    def check_faults(self, rows):
        self.check_read([(text, [0, place]) for text, place in rows])

    def check_as_expected(self, t):
        if read(t) != expected_read(t):
            self.fail(f"{bytes(t)!r} should be answered {expected_read(t)}, not {read(t)}")


class RightTexts(Common):
    def test_ordinary_texts(self):
        self.check_read([
            ("1", [1] + UNISON), ("2", [1] + OCTAVE), ("2^-1 3", [1] + FIFTH), ("2^7/12", [1] + EQUAL_FIFTH),
            ("5^1/4", [1, 0, 0, 1, 0, 4]), ("3", [1, 0, 1, 0, 0, 1]), ("5", [1, 0, 0, 1, 0, 1]),
            ("7", [1, 0, 0, 0, 1, 1]), ("2 3 5 7", [1, 1, 1, 1, 1, 1]), ("2 7", [1, 1, 0, 0, 1, 1]),
            ("3^-99/23", [1, 0, -99, 0, 0, 23]), ("2^99", [1, 99, 0, 0, 0, 1]), ("7^-99", [1, 0, 0, 0, -99, 1]),
            ("2^2 3^-2", [1, 2, -2, 0, 0, 1]), ("2^10 7^20", [1, 10, 0, 0, 20, 1]), ("5^-1/24", [1, 0, 0, -1, 0, 24]),
        ])

    def test_powers_with_different_d(self):
        self.check_read([
            ("2^-19/12 3", [1, -19, 12, 0, 0, 12]), ("2^1/2 3^1/3 5^1/4 7^1/12", [1, 6, 4, 3, 1, 12]),
            ("2 3^2 5^-1 7^1/24", [1, 24, 48, -24, 1, 24]), ("2^1/3 3^1/8", [1, 8, 3, 0, 0, 24]),
            ("2^1/24 3^1/24", [1, 1, 1, 0, 0, 24]), ("2^1/6 3^1/4", [1, 2, 3, 0, 0, 12]),
            ("2^99/2 3^99/2", [1, 99, 99, 0, 0, 2]), ("2^49 3^1/2", [1, 98, 1, 0, 0, 2]),
        ])

    def test_every_text_that_is_printed_is_read_back(self):
        grid = itertools.product((-99, -12, -1, 0, 24), (-30, 0, 1, 6), (-8, 0, 23), (-24, 0, 5), range(1, 25))
        lists = [list(five) for five in grid if is_interval(list(five)) == [1]]
        for place, d in itertools.product(range(4), range(1, 25)):
            lists += [[power if k == place else 0 for k in range(4)] + [d] for power in range(-99, 100)]
        for x in INTERVALS + lists:
            if is_interval(x) == [1]:
                told = print_text(x)
                self.assertEqual(told[0], len(told) - 1)
                if read(told[1:]) != [1] + x:
                    self.fail(f"the text of {x} is read as {read(told[1:])}")


class Faults(Common):
    def test_the_empty_text(self):
        self.check_faults([("", 0)])

    def test_a_first_byte_that_cannot_stand_there(self):
        for byte in range(256):
            if byte not in b"12357":
                check_answer(self, read([byte]), [0, 0])
                check_answer(self, read([byte] + as_bytes(" 3")), [0, 0])

    def test_a_byte_that_cannot_stand_there_at_each_point_of_the_form(self):
        # What stands there, and the bytes that can follow it.
        for begun, following in (
            ("2", "^ "), ("2 ", "2357"), ("2^", "-0123456789"), ("2^-", "123456789"), ("2^3", "/ 0123456789"),
            ("2^-3", "/ 0123456789"), ("2^3/", "0123456789"), ("2^3/4", " 0123456789"), ("2^-3/4", " 0123456789"),
            ("2^1234", "/ "), ("2^3/1234", " "), ("2^-23", "/ 0123456789"), ("1", ""), ("3 7", "^ "),
            ("3 7^", "-0123456789"), ("3 7^-", "123456789"), ("3 7^5/", "0123456789"), ("2 3 5 7", "^ "),
            ("2 3 5 7 ", "2357"),
        ):
            for byte in range(256):
                t = as_bytes(begun) + [byte]
                self.check_as_expected(t)
                self.check_as_expected(t + as_bytes("2"))
                if byte not in following.encode():
                    check_answer(self, read(t), [0, len(begun)])
                    check_answer(self, read(t + [0]), [0, len(begun)])

    def test_more_must_come(self):
        self.check_faults([(text, len(text)) for text in (
            "", "2 ", "2^", "2^-", "2^3/", "2^-3/", "2^12/", "2 3 ", "2 3^", "2 3^-", "2 3^5/", "2^7/12 ", "2^7/12 3^",
            "2^0/", "2^1/", "2^-1/", "3 2^", "3 2^-", "3 2^5/", "2 3 5 7^", "2 3 5 7 ",
        )])

    def test_a_fifth_digit(self):
        self.check_faults([
            ("2^12345", 6), ("2^-12345", 7), ("2^1/12345", 8), ("2^12345/7", 6), ("2^1234567", 6), ("3 5^12345", 8),
            ("2^1/12345 3", 8), ("2^-1/10000", 9), ("2^99999", 6), ("2^10000x", 6),
        ])

    def test_four_digits_can_stand_there(self):
        self.check_faults([
            ("2^1234", 6), ("2^-1234", 7), ("2^1/1234", 8), ("2^1234/1235", 11), ("2^9999 3", 8), ("2^1000 x", 7),
            ("2^1234x", 6),
        ])

    def test_a_digit_behind_a_zero_that_begins_a_number(self):
        self.check_faults([
            ("2^05", 3), ("2^00", 3), ("2^01", 3), ("2^1/05", 5), ("2^1/00", 5), ("2^1/02 3", 5), ("3 5^07", 5),
            ("2^0123456", 3), ("2^05/7", 3),
        ])

    def test_a_zero_that_does_not_begin_a_number(self):
        self.check_read([
            ("2^10", [1, 10, 0, 0, 0, 1]), ("2^-10", [1, -10, 0, 0, 0, 1]), ("2^1/10", [1, 1, 0, 0, 0, 10]),
            ("2^90/7", [1, 90, 0, 0, 0, 7]), ("2^1/20 3", [1, 1, 20, 0, 0, 20]),
        ])

    def test_a_zero_behind_a_minus_sign(self):
        self.check_faults([("2^-0", 3), ("2^-05", 3), ("2^-0/3", 3), ("2^-0 3", 3), ("2 3^-0", 5), ("2^-01", 3)])

    def test_a_minus_sign_elsewhere(self):
        self.check_faults([("2^--1", 3), ("2^1/-2", 4), ("-2", 0), ("2-1", 1), ("2^5-", 3), ("2 -3", 2)])

    def test_something_behind_one_at_the_first_byte(self):
        self.check_faults([("1 ", 1), ("11", 1), ("1^2", 1), ("1 2", 1), ("12", 1), ("1^", 1), ("1/2", 1), ("1x", 1)])
        for byte in range(256):
            check_answer(self, read([0x31, byte]), [0, 1])

    def test_one_behind_another_factor(self):
        self.check_faults([("2 1", 2), ("21", 1), ("2 3 1", 4), ("7 1", 2), ("2^5 1", 4)])

    def test_a_factor_not_above_the_one_before_it(self):
        self.check_faults([
            ("2 2", 2), ("3 2", 2), ("7 5", 2), ("7 7", 2), ("2 3 3", 4), ("2 3 5 2", 6), ("2^5 2^5", 4),
            ("2^-1 3 2", 7), ("5^1/4 3^7/12", 6), ("2^7/12 2^5/12", 7), ("2 3 5 7 7", 8), ("2 3 5 7 2", 8),
            ("3^-1 2", 5), ("3 2 5", 2), ("3^2 2^2 5", 4),
        ])

    def test_a_power_zero(self):
        self.check_faults([
            ("2^0", 0), ("2 3^0", 2), ("2^0 3", 0), ("2^0/3", 0), ("2^0/1", 0), ("2^0/0", 0), ("2^5 3^1/2 7^0", 10),
            ("7^0/24", 0),
        ])

    def test_a_power_told_though_it_is_one(self):
        self.check_faults([
            ("2^1", 0), ("2 3^1", 2), ("2^1 3", 0), ("2^1/1", 0), ("2^2/2", 0), ("2^-1 3^1", 5), ("2 3 5 7^1", 6),
            ("2^1234/1234", 0),
        ])

    def test_a_fraction_not_in_lowest_terms(self):
        self.check_faults([
            ("2^2/4", 0), ("2^-2/4", 0), ("2^6/3", 0), ("2^-6/3", 0), ("2^14/24", 0), ("2^7/12 3^10/15", 7),
            ("2^9999/9", 0), ("2^25/50", 0), ("3^21/49", 0), ("2^8/12 3", 0), ("2^2/2468", 0),
        ])

    def test_a_fraction_with_d_zero_or_one(self):
        self.check_faults([
            ("2^5/1", 0), ("2^5/0", 0), ("2^-5/1", 0), ("2^-5/0", 0), ("2^1/0", 0), ("2^-1/1", 0), ("2^-1/0", 0),
            ("2 3^5/1", 2), ("2 3^5/0", 2), ("2^5/1 3", 0), ("2^5/0 3", 0), ("2^100/1", 0), ("2^9999/0", 0),
        ])

    def test_no_interval_in_the_end(self):
        self.check_faults([(text, len(text)) for text in (
            "2^100", "2^-100", "3^100", "5^-100", "7^100", "2^1000", "2^9999", "2^1/25", "2^-1/25", "2^7/1200",
            "2^101/2", "2^1/5 3^1/7", "2^1/5 3^1/6", "2^50 3^1/2", "2^-50 3^1/2", "2^99 3^1/2", "2^1/24 3^1/23",
            "2 3 5 7^100", "2^100 3", "2^1/25 3", "2^5 3^5/24", "2^1/16 3^1/12", "2^9999/9998", "2^1/9999 3^1/9998",
            "2^9999 3^9999 5^9999 7^9999", "2^-9999/9998 3^-9999/9998 5^-9999/9998 7^-9999/9998",
        )])

    def test_at_the_edges_of_the_ranges(self):
        self.check_read([
            ("2^99", [1, 99, 0, 0, 0, 1]), ("2^-99", [1, -99, 0, 0, 0, 1]), ("2^1/24", [1, 1, 0, 0, 0, 24]),
            ("2^97/24", [1, 97, 0, 0, 0, 24]), ("2^4 3^5/24", [1, 96, 5, 0, 0, 24]),
            ("2^1/3 3^1/8", [1, 8, 3, 0, 0, 24]), ("2^101/24", [0, 8]), ("2^-5 3^5/24", [0, 11]),
        ])


class TwoFaults(Common):
    def test_a_wrong_factor_ahead_of_what_follows(self):
        self.check_faults([
            ("2^0x", 0), ("2^1x", 0), ("2^2/4x", 0), ("2^5/1x", 0), ("2^5/0/", 0), ("2^2/4/", 0), ("2^2/4^", 0),
            ("2^0 ", 0), ("2^1 ", 0), ("2^1 x", 0), ("2^1^", 0), ("2^1-", 0), ("2^0 3^0", 0), ("2^1 2", 0),
            ("2 2x", 2), ("3 22", 2), ("3 2x", 2), ("3 2 ", 2), ("3 2-", 2), ("3 2/", 2), ("3 21", 2), ("7 5 x", 2),
            ("3 2^5x", 2), ("3 2^5 ", 2), ("3 2^1/2/", 2), ("3 2^0", 2), ("2^1 3^12345", 0), ("2^0 3^05", 0),
            ("2^1 3^", 0), ("2^100 3^0", 6), ("2^1/25 2", 7), ("2^100 x", 6), ("2^100 ", 6), ("2^100x", 5),
        ])

    def test_a_byte_that_cannot_stand_there_ahead_of_a_wrong_factor(self):
        self.check_faults([
            ("2x 3^0", 1), ("2x2", 1), ("22^0", 1), ("2^x 3^0", 2), ("2^-x2", 3), ("2^3x 2", 3), ("x2^0", 0),
            ("2  2", 2), (" 2^0", 0), ("2^5/x3^1", 4), ("2^5//0", 4),
        ])

    def test_a_factor_that_does_not_stand_whole_is_not_looked_at(self):
        self.check_faults([
            ("2^1/", 4), ("2^0/", 4), ("2^0/x", 4), ("2^1/x", 4), ("2^1/-1", 4), ("2^00", 3), ("2^01", 3),
            ("2^0/00", 5), ("2^2/01", 5), ("2^1/10000", 8), ("2^2/22222", 8), ("3 2^", 4), ("3 2^x", 4), ("3 2^-", 5),
            ("3 2^-0", 5), ("3 2^05", 5), ("3 2^5/", 6), ("3 2^5/x", 6), ("3 2^5/07", 7), ("3 2^12345", 8),
            ("2 2^^", 4),
        ])

    def test_the_number_goes_on(self):
        self.check_read([
            ("2^10", [1, 10, 0, 0, 0, 1]), ("2^1/12", [1, 1, 0, 0, 0, 12]), ("2^5/13", [1, 5, 0, 0, 0, 13]),
            ("2^1/2", [1, 1, 0, 0, 0, 2]), ("2^2/21", [1, 2, 0, 0, 0, 21]),
        ])


class Lengths(Common):
    def test_sixty_four_bytes_are_looked_at(self):
        full = "2^-9999/9998 3^-9999/9998 5^-9999/9998 7^-9999/9998"
        self.check_faults([
            (full + " 7^-9999/9998", 52), ("2" * 64, 1), ("x" * 64, 0), ("1" * 64, 1), ("2" + " " * 63, 2),
            ("2^" + "1" * 62, 6), ("2^0" + " " * 61, 0), (full + " 2" + " " * 11, 52), ("3" + " 2" * 31 + " ", 2),
        ])
        self.assertEqual(len(full + " 7^-9999/9998"), 64)

    def test_more_bytes_are_not_looked_at(self):
        for count in list(range(65, 129)):
            for text in ("2" * count, "x" * count, "1" * count, "2^0" + " " * (count - 3), "\x00" * count):
                check_answer(self, read(as_bytes(text)), [0, 64])
                check_answer(self, read([255] * count), [0, 64])
            check_answer(self, read(as_bytes("2^-1 3" + " " * (count - 6))), [0, 64])

    def test_every_byte_at_every_length(self):
        for count in range(129):
            for byte in (0, 0x20, 0x2D, 0x2F, 0x30, 0x31, 0x32, 0x37, 0x38, 0x5E, 0x80, 0xB2, 0xFF):
                self.check_as_expected([byte] * count)


class AllTexts(Common):
    def test_every_short_text(self):
        for count in range(6):
            for t in itertools.product(b"01237^-/ x", repeat=count):
                self.check_as_expected(list(t))

    def test_every_power_of_one_factor(self):
        for count in range(6):
            for power in itertools.product("0124-/", repeat=count):
                self.check_as_expected(as_bytes("2^" + "".join(power)))
                self.check_as_expected(as_bytes("5 3^" + "".join(power)))

    def test_every_row_of_factors(self):
        factors = ("2", "3^-1", "5^7/12", "7", "2^0", "3^2/4", "7^1", "5^100", "2^", "3x", "7^05")
        for count in range(5):
            for row in itertools.product(factors, repeat=count):
                self.check_as_expected(as_bytes(" ".join(row)))

    def test_a_byte_put_in_left_out_or_changed(self):
        for x in INTERVALS:
            t = print_text(x)[1:]
            for place in range(len(t) + 1):
                self.check_as_expected(t[:place])
                self.check_as_expected(t[:place] + t[place + 1:])
                for byte in b"0123579^-/ \x00\xb2\xff":
                    self.check_as_expected(t[:place] + [byte] + t[place:])
                    self.check_as_expected(t[:place] + [byte] + t[place + 1:])

    def test_what_is_read_is_printed_so(self):
        seen = 0
        for count in range(1, 6):
            for t in itertools.product(b"0123^-/ ", repeat=count):
                told = read(list(t))
                if told[0] == 1:
                    seen += 1
                    self.assertEqual(is_interval(told[1:]), [1])
                    self.assertEqual(print_text(told[1:]), [len(t)] + list(t))
                else:
                    self.assertEqual(len(told), 2)
                    self.assertTrue(0 <= told[1] <= len(t))
        self.assertGreater(seen, 30)


class HandedIn(Common):
    def test_what_is_handed_in_stays(self):
        for text in ("", "1", "2^-1 3", "2^7/12", "2^0", "3 2", "2^", "x", "2^100", "2" * 64, "2" * 65, "x" * 128):
            t = GuardedList(as_bytes(text))
            read(t)
            self.assertEqual(list(t), as_bytes(text))

    def test_a_second_call_answers_as_the_first(self):
        for text, expected in (
            ("2^-1 3", [1] + FIFTH), ("1", [1] + UNISON), ("", [0, 0]), ("2^0", [0, 0]), ("2^100", [0, 5]),
            ("2" * 65, [0, 64]), ("2 x", [0, 2]),
        ):
            check_second_call(self, read, (as_bytes(text),), expected)

    def test_argument_by_name(self):
        check_answer(self, read(t=as_bytes("2^7/12")), [1] + EQUAL_FIFTH)


if __name__ == "__main__":
    unittest.main()
