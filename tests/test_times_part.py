import itertools
import unittest

from exactlutes.intervals import add, is_interval, part, times
from support import (
    EQUAL_FIFTH, FIFTH, GREATEST, INTERVALS, LEAST, NO_INTERVALS, OCTAVE, UNISON, GuardedList, check_answer,
    check_second_call, interval_of_powers, opposite, ratio,
)

NUMBERS = (
    LEAST, LEAST + 1, -1000000, -100, -99, -24, -2, -1, 0, 1, 2, 3, 24, 25, 99, 100, 1200, GREATEST - 1, GREATEST,
)


def expected_times(n, x):
    return interval_of_powers([power * n for power in ratio(x)])


def expected_part(n, x):
    return interval_of_powers([power / n for power in ratio(x)]) if n >= 1 else [0]


class Common(unittest.TestCase):
    def check_all(self, function, rows):
        for n, x, expected in rows:
            with self.subTest(function=function.__name__, n=n, x=x):
                check_answer(self, function(n, x), expected)


class Times(Common):
    def test_zero_times_is_the_unison(self):
        self.check_all(times, [(0, x, [1] + UNISON) for x in INTERVALS])

    def test_once_and_its_opposite(self):
        self.check_all(times, [(1, x, [1] + x) for x in INTERVALS])
        self.check_all(times, [(-1, x, [1] + opposite(x)) for x in INTERVALS])

    def test_ordinary_numbers(self):
        self.check_all(times, [
            (2, FIFTH, [1, -2, 2, 0, 0, 1]),
            (12, FIFTH, [1, -12, 12, 0, 0, 1]),
            (-3, FIFTH, [1, 3, -3, 0, 0, 1]),
            (5, EQUAL_FIFTH, [1, 35, 0, 0, 0, 12]),
            (-5, EQUAL_FIFTH, [1, -35, 0, 0, 0, 12]),
            (7, [1, -2, 3, -4, 11], [1, 7, -14, 21, -28, 11]),
            (-7, [1, -2, 3, -4, 11], [1, -7, 14, -21, 28, 11]),
        ])

    def test_brought_to_lowest_terms(self):
        self.check_all(times, [
            (12, EQUAL_FIFTH, [1, 7, 0, 0, 0, 1]),
            (-12, EQUAL_FIFTH, [1, -7, 0, 0, 0, 1]),
            (4, EQUAL_FIFTH, [1, 7, 0, 0, 0, 3]),
            (8, EQUAL_FIFTH, [1, 14, 0, 0, 0, 3]),
            (9, [1, 2, 3, -4, 24], [1, 3, 6, 9, -12, 8]),
            (36, [1, 2, 3, -4, 24], [1, 3, 6, 9, -12, 2]),
            (-24, [0, 0, 0, 1, 24], [1, 0, 0, 0, -1, 1]),
        ])

    def test_edges_of_the_powers(self):
        for place in range(4):
            for n, power, fits in ((99, 1, True), (100, 1, False), (33, 3, True), (34, 3, False), (3, 33, True),
                                   (2, 49, True), (2, 50, False), (1, 99, True), (2, 99, False)):
                for sign, other in itertools.product((1, -1), (1, -1)):
                    x = list(UNISON)
                    x[place] = sign * power
                    both = list(UNISON)
                    both[place] = sign * other * n * power
                    self.check_all(times, [(other * n, x, [1] + both if fits else [0])])
        self.check_all(times, [
            (99, [1, -1, 1, -1, 23], [1, 99, -99, 99, -99, 23]),
            (100, [1, -1, 1, -1, 23], [0]),
            (-99, [1, -1, 1, -1, 23], [1, -99, 99, -99, 99, 23]),
            (5, [0, 0, 1, 20, 1], [0]),
            (99, [1, 0, 0, 0, 24], [1, 33, 0, 0, 0, 8]),
            (95, [1, 0, 0, 0, 24], [1, 95, 0, 0, 0, 24]),
            (101, [1, 0, 0, 0, 24], [0]),
        ])

    def test_into_the_ranges_only_in_lowest_terms(self):
        self.check_all(times, [
            (8, [99, 0, 0, 0, 8], [1, 99, 0, 0, 0, 1]),
            (-8, [99, 0, 0, 0, 8], [1, -99, 0, 0, 0, 1]),
            (24, [95, 1, 1, 1, 24], [1, 95, 1, 1, 1, 1]),
            (2376, [1, 0, 0, 0, 24], [1, 99, 0, 0, 0, 1]),
            (-2376, [1, 0, 0, 0, 24], [1, -99, 0, 0, 0, 1]),
            (2377, [1, 0, 0, 0, 24], [0]),
            (2400, [1, 0, 0, 0, 24], [0]),
            (102, [1, 0, 0, 0, 24], [1, 17, 0, 0, 0, 4]),
        ])

    def test_the_unison_with_any_number(self):
        self.check_all(times, [(n, UNISON, [1] + UNISON) for n in NUMBERS])

    def test_greatest_and_least_numbers(self):
        for n in (LEAST, LEAST + 1, GREATEST - 1, GREATEST):
            self.check_all(times, [(n, x, [0]) for x in INTERVALS if x != UNISON])


class Part(Common):
    def test_one_part_is_all(self):
        self.check_all(part, [(1, x, [1] + x) for x in INTERVALS])

    def test_ordinary_numbers(self):
        self.check_all(part, [
            (12, OCTAVE, [1, 1, 0, 0, 0, 12]),
            (2, FIFTH, [1, -1, 1, 0, 0, 2]),
            (4, [-4, 4, -1, 0, 1], [1, -4, 4, -1, 0, 4]),
            (6, [-4, 4, -1, 0, 1], [1, -4, 4, -1, 0, 6]),
            (2, EQUAL_FIFTH, [1, 7, 0, 0, 0, 24]),
            (3, [1, -2, 3, -4, 5], [1, 1, -2, 3, -4, 15]),
        ])

    def test_below_one(self):
        for n in (0, -1, -2, -12, -24, -100, LEAST + 1, LEAST):
            self.check_all(part, [(n, x, [0]) for x in INTERVALS])

    def test_brought_to_lowest_terms(self):
        self.check_all(part, [
            (7, EQUAL_FIFTH, [1, 1, 0, 0, 0, 12]),
            (14, EQUAL_FIFTH, [1, 1, 0, 0, 0, 24]),
            (99, [99, 0, 0, 0, 1], [1, 1, 0, 0, 0, 1]),
            (33, [99, 0, 0, 0, 1], [1, 3, 0, 0, 0, 1]),
            (66, [99, 0, 0, 0, 1], [1, 3, 0, 0, 0, 2]),
            (99, [99, -99, 99, -99, 23], [1, 1, -1, 1, -1, 23]),
            (6, [12, -30, 18, 6, 7], [1, 2, -5, 3, 1, 7]),
            (12, [12, -30, 18, 6, 7], [1, 2, -5, 3, 1, 14]),
            (8, [0, -80, 0, 48, 3], [1, 0, -10, 0, 6, 3]),
            (10, [-15, 0, 20, 0, 4], [1, -3, 0, 4, 0, 8]),
        ])

    def test_edges_of_d(self):
        self.check_all(part, [
            (24, OCTAVE, [1, 1, 0, 0, 0, 24]),
            (25, OCTAVE, [0]),
            (24, [99, 99, 99, 98, 1], [1, 99, 99, 99, 98, 24]),
            (25, [99, 99, 99, 98, 1], [0]),
            (8, [1, 0, 0, 0, 3], [1, 1, 0, 0, 0, 24]),
            (9, [1, 0, 0, 0, 3], [0]),
            (2, [0, 0, 0, 1, 12], [1, 0, 0, 0, 1, 24]),
            (2, [0, 0, 0, 1, 13], [0]),
            (1, [1, 0, 0, 0, 24], [1, 1, 0, 0, 0, 24]),
            (2, [1, 0, 0, 0, 24], [0]),
            (5, [5, 0, 0, 0, 24], [1, 1, 0, 0, 0, 24]),
            (5, [5, 1, 0, 0, 24], [0]),
            (48, [2, 4, 6, 8, 1], [1, 1, 2, 3, 4, 24]),
            (50, [2, 4, 6, 8, 1], [0]),
            (2376, [99, 0, 0, 0, 1], [1, 1, 0, 0, 0, 24]),
            (2377, [99, 0, 0, 0, 1], [0]),
            (2475, [99, 0, 0, 0, 1], [0]),
        ])

    def test_the_unison_with_any_number_from_one_on(self):
        self.check_all(part, [(n, UNISON, [1] + UNISON if n >= 1 else [0]) for n in NUMBERS])

    def test_greatest_and_least_numbers(self):
        for n in (LEAST, LEAST + 1, GREATEST - 1, GREATEST):
            self.check_all(part, [(n, x, [0]) for x in INTERVALS if x != UNISON])


class TimesAndPart(Common):
    def test_no_interval(self):
        for n, x in itertools.product(NUMBERS, NO_INTERVALS):
            self.check_all(times, [(n, x, [0])])
            self.check_all(part, [(n, x, [0])])

    def test_every_number_with_many_intervals(self):
        for x in INTERVALS:
            for n in range(-110, 111):
                if times(n, x) != expected_times(n, x):
                    self.fail(f"{n} times {x} should be answered {expected_times(n, x)}")
                if part(n, x) != expected_part(n, x):
                    self.fail(f"part {n} of {x} should be answered {expected_part(n, x)}")

    def test_as_many_parts_as_told_are_it_again(self):
        seen = 0
        for x in INTERVALS + [[12, 24, 36, -48, 5], [60, 0, 0, 0, 1], [0, 96, -96, 0, 1], [-90, 45, 0, 15, 2]]:
            for n in list(range(1, 120)) + [1200, 2376]:
                one = part(n, x)
                if one[0] == 1:
                    seen += 1
                    self.assertEqual(is_interval(one[1:]), [1])
                    self.assertEqual(times(n, one[1:]), [1] + x)
        self.assertGreater(seen, 300)

    def test_parts_put_upon_one_another_are_it_again(self):
        for x, n in ((OCTAVE, 12), (FIFTH, 4), (EQUAL_FIFTH, 7), ([-4, 4, -1, 0, 1], 6), (UNISON, 5)):
            one = part(n, x)[1:]
            upon = list(UNISON)
            for count in range(1, n + 1):
                upon = add(upon, one)[1:]
                self.assertEqual(times(count, one), [1] + upon)
            self.assertEqual(upon, x)

    def test_a_part_of_what_is_taken_many_times(self):
        for x, n in itertools.product(INTERVALS, range(1, 30)):
            many = times(n, x)
            if many[0] == 1:
                self.assertEqual(part(n, many[1:]), [1] + x)

    def test_what_is_answered_is_in_its_one_form(self):
        for x, n in itertools.product(INTERVALS, range(-30, 31)):
            for answer in (times(n, x), part(n, x)):
                if answer != [0]:
                    self.assertEqual(len(answer), 6)
                    self.assertEqual(answer[0], 1)
                    self.assertEqual(is_interval(answer[1:]), [1])

    def test_what_is_handed_in_stays(self):
        for first, n in itertools.product(INTERVALS + NO_INTERVALS, (-1, 0, 1, 2, 12, GREATEST)):
            x = GuardedList(first)
            times(n, x)
            part(n, x)
            self.assertEqual(list(x), first)

    def test_what_is_answered_is_a_new_list(self):
        for function in (times, part):
            x = list(FIFTH)
            answer = function(1, x)
            answer[1] = 77
            self.assertEqual(x, FIFTH)

    def test_a_second_call_answers_as_the_first(self):
        for function in (times, part):
            for n, x in ((3, FIFTH), (1, EQUAL_FIFTH), (0, OCTAVE), (100, OCTAVE), (2, [1, 2]), (5, UNISON)):
                check_second_call(self, function, (n, x), function(n, list(x)))

    def test_arguments_by_name(self):
        check_answer(self, times(x=FIFTH, n=2), [1, -2, 2, 0, 0, 1])
        check_answer(self, part(x=FIFTH, n=2), [1, -1, 1, 0, 0, 2])


if __name__ == "__main__":
    unittest.main()
